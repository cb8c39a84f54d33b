package origin_test

import (
	"math"
	"math/rand"
	"reflect"
	"slices"
	"testing"

	"cottonpad/api"
	"cottonpad/origin"
)

// asked is all that the functions of the package are asked with.
type asked struct {
	s            scene
	room, minute int
}

// answers is all that the functions of the package return of the same arguments.
type answers struct {
	minutes                    []api.Span
	rooms, truth, why, against []int
	named                      int
	errors                     [7]api.Errno
}

func ask(q asked) answers {
	var a answers
	s := q.s.Scene
	a.errors[0] = origin.Check(s)
	a.minutes, a.errors[1] = origin.Minutes(s, q.room)
	a.rooms, a.errors[2] = origin.Rooms(s)
	a.named, a.errors[3] = origin.Named(s)
	a.truth, a.errors[4] = origin.Truth(s, q.room, q.minute)
	a.why, a.errors[5] = origin.Why(s, q.room)
	a.against, a.errors[6] = origin.Against(s)
	return a
}

// zeroBesideErrors is R2.
func (a answers) zeroBesideErrors() bool {
	return (a.errors[1] == api.OK || len(a.minutes) == 0) &&
		(a.errors[2] == api.OK || len(a.rooms) == 0) &&
		(a.errors[3] == api.OK || a.named == 0) &&
		(a.errors[4] == api.OK || len(a.truth) == 0) &&
		(a.errors[5] == api.OK || len(a.why) == 0) &&
		(a.errors[6] == api.OK || len(a.against) == 0)
}

// lists are all lists of numbers of some answers.
func (a *answers) lists() []*[]int {
	return []*[]int{&a.rooms, &a.truth, &a.why, &a.against}
}

// copied is the same answers in other memory; an empty list becomes a nil one.
func (a answers) copied() answers {
	a.minutes = append([]api.Span(nil), a.minutes...)
	for _, list := range a.lists() {
		*list = append([]int(nil), *list...)
	}
	return a
}

// spoil overwrites all memory of some answers, and returns how much there was in each list.
func (a answers) spoil() [5]int {
	var seen [5]int
	for i, list := range a.lists() {
		seen[i] = len(*list)
		for j := range (*list)[:cap(*list)] {
			(*list)[:cap(*list)][j] = 99
		}
	}
	seen[4] = len(a.minutes)
	for j := range a.minutes[:cap(a.minutes)] {
		a.minutes[:cap(a.minutes)][j] = span(99, 99)
	}
	return seen
}

// spare puts a list into memory that goes on behind it, with marks that must stay.
func spare[T any](list []T, mark T) []T {
	return append(slices.Clone(list), mark, mark)[:len(list)]
}

func (q asked) spared() asked {
	q.s.Gates, q.s.Marks = spare(q.s.Gates, gate(77, 77, 77, 77)), spare(q.s.Marks, clock(77, 77, 77, 77))
	return q
}

// behind is a copy of all memory of arguments, to the capacity of each list.
func (q asked) behind() asked {
	q.s.Gates, q.s.Marks = q.s.Gates[:cap(q.s.Gates)], q.s.Marks[:cap(q.s.Marks)]
	q.s = q.s.copied()
	return q
}

func someAsked(g *rand.Rand) asked {
	s := someOf(g, append(sizes(), huge())).some(g)
	q := asked{s: s, room: g.Intn(s.Rooms), minute: between(g, 0, s.End)}
	if spans, _ := origin.Minutes(s.Scene, q.room); len(spans) > 0 {
		q.minute = spans[0].Lo
	}
	return q
}

// R3: no argument is written to, no result shares memory with an argument or another one, and no call remembers another one.
func TestMemory(t *testing.T) {
	g := rand.New(rand.NewSource(20))
	var sum [5]int
	for range 800 {
		q := someAsked(g).spared()
		before := q.behind()
		a := ask(q)
		kept := a.copied()
		for i, n := range a.spoil() {
			sum[i] += n
		}
		ask(someAsked(g))
		if b := ask(q).copied(); !reflect.DeepEqual(kept, b) {
			t.Fatal(kept, b)
		}
		if !reflect.DeepEqual(before, q.behind()) {
			t.Fatal("an argument is written to, or a result is a part of one")
		}
	}
	if slices.Min(sum[:]) < 50 {
		t.Error("too few of one kind", sum)
	}
}

// R4: an empty list is a nil one.
func TestNilAndEmpty(t *testing.T) {
	empty := scene{api.Scene{Gates: []api.Gate{}, Marks: []api.Mark{}}}
	for rooms := range api.MaxScene + 2 {
		a, b := asked{s: house(rooms, 5, nil), minute: 3}, asked{s: empty, minute: 3}
		b.s.Rooms, b.s.End = rooms, 5
		x, y := ask(a).copied(), ask(b).copied()
		if !reflect.DeepEqual(x, y) {
			t.Error(rooms, x, y)
		}
		if rooms >= 1 && rooms <= api.MaxScene != (x.errors[4] == api.OK) {
			t.Error(rooms, x.errors)
		}
	}
}

// someNumber is one of any size and sign.
func someNumber(g *rand.Rand) int {
	list := []int{math.MinInt, math.MinInt + 1, -1, -1, 0, 0, 0, 1, 1, 1, 2, 2, 3, 3, 4, 5, 6, 7, 8, 10, 12, 20, 30, 58, 60, 61, 600, 601, 9999, 10000, math.MaxInt32, math.MaxInt - 1, math.MaxInt}
	return someOf(g, list)
}

// change changes something of the arguments to any value; each list of the scene has something in it.
func (q *asked) change(g *rand.Rand) {
	x, m := &q.s.Gates[g.Intn(len(q.s.Gates))], &q.s.Marks[g.Intn(len(q.s.Marks))]
	numbers := []*int{&q.s.Rooms, &q.s.End, &x.A, &x.B, &x.Delay.Lo, &x.Delay.Hi, &m.Id, &m.Room, &m.Other, &m.At.Lo, &m.At.Lo, &m.At.Hi, &m.At.Hi, &m.Long, &q.room, &q.room, &q.minute, &q.minute}
	switch g.Intn(8) {
	case 0:
		m.Kind = uint8(someOf(g, []int{0, 1, 2, 3, 4, 5, 6, 7, 255}))
	case 1:
		q.s.Gates = slices.Repeat(q.s.Gates, between(g, 1, 4))
	case 2:
		q.s.Marks = slices.Repeat(q.s.Marks, between(g, 1, 5))
	default:
		*someOf(g, numbers) = someNumber(g)
	}
}

// R2, R5, R6 and R7: any values at all.
func TestAnyValues(t *testing.T) {
	g := rand.New(rand.NewSource(21))
	seen := map[api.Errno]int{}
	for range 30000 {
		q := asked{s: example().copied(), room: g.Intn(3), minute: g.Intn(13)}
		if g.Intn(2) == 0 {
			q.s = q.s.more(before(3, 0, 1))
		}
		if g.Intn(2) == 0 {
			q.s = q.s.more(melt(4, 0, 26))
		}
		for range between(g, 1, 3) {
			q.change(g)
		}
		a := ask(q)
		if !a.zeroBesideErrors() {
			t.Fatal(a, q)
		}
		for i, e := range a.errors {
			seen[e]++
			// What is wrong with the scene is told by all functions.
			if (a.errors[0] != api.OK || e == api.ErrScene) && e != a.errors[0] {
				t.Fatal(i, a, q)
			}
		}
	}
	for _, e := range []api.Errno{api.OK, api.ErrArg, api.ErrNone, api.ErrBad, api.ErrScene, api.ErrUntrue} {
		if seen[e] < 500 {
			t.Error("never, or too seldom", e, seen)
		}
		delete(seen, e)
	}
	if len(seen) > 0 {
		t.Error("other errors", seen)
	}
}
