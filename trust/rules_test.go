package trust_test

import (
	"math"
	"math/rand"
	"reflect"
	"slices"
	"testing"

	"cottonpad/api"
	"cottonpad/trust"
)

// asked is all that the functions of the package are asked with.
type asked struct {
	s       scene
	day, id int
}

// answers is all that the functions of the package return of the same arguments.
type answers struct {
	holds, takes, rests, causes, recall []int
	store                               api.Store
	pieces                              int
	errors                              [7]api.Errno
}

func ask(q asked) answers {
	var a answers
	s := q.s
	a.errors[0] = trust.Check(s.r, s.l)
	a.holds, a.errors[1] = trust.Holds(s.r, s.l, q.day)
	a.takes, a.errors[2] = trust.Takes(s.r, s.l, q.day, q.id)
	a.rests, a.errors[3] = trust.Rests(s.r, s.l, q.day, q.id)
	a.causes, a.errors[4] = trust.Causes(s.r, s.l, q.day, q.id)
	a.store, a.errors[5] = trust.Pieces(s.r, s.m, q.id)
	a.recall, a.pieces, a.errors[6] = trust.Recall(s.r, s.l, s.m, q.day)
	return a
}

// zeroBesideErrors is R2.
func (a answers) zeroBesideErrors() bool {
	return (a.errors[1] == api.OK || len(a.holds) == 0) &&
		(a.errors[2] == api.OK || len(a.takes) == 0) &&
		(a.errors[3] == api.OK || len(a.rests) == 0) &&
		(a.errors[4] == api.OK || len(a.causes) == 0) &&
		(a.errors[5] == api.OK || a.store == api.Store{}) &&
		(a.errors[6] == api.OK || len(a.recall) == 0 && a.pieces == 0)
}

// lists are all lists of some answers.
func (a *answers) lists() []*[]int {
	return []*[]int{&a.holds, &a.takes, &a.rests, &a.causes, &a.recall}
}

// copied is the same answers in other memory; an empty list becomes a nil one.
func (a answers) copied() answers {
	for _, list := range a.lists() {
		*list = append([]int(nil), *list...)
	}
	return a
}

// spare puts a list into memory that goes on behind it, with marks that must stay.
func spare[T any](list []T, mark T) []T {
	return append(slices.Clone(list), mark, mark)[:len(list)]
}

func (q asked) spared() asked {
	s := q.s.copied()
	for i, r := range s.r {
		for j, way := range r.Ways {
			r.Ways[j] = spare(way, 77)
		}
		s.r[i].Ways = spare(r.Ways, list(77))
	}
	q.s = scene{r: spare(s.r, factory(77)), l: spare(s.l, withdraw(77, 77, 77)), m: spare(s.m, move(77, 77, 77, 77))}
	return q
}

// behind is a copy of all memory of arguments, to the capacity of each list.
func (q asked) behind() asked {
	s := scene{r: slices.Clone(q.s.r[:cap(q.s.r)]), l: q.s.l[:cap(q.s.l)], m: q.s.m[:cap(q.s.m)]}
	for i, r := range s.r {
		ways := slices.Clone(r.Ways[:cap(r.Ways)])
		for j, way := range ways {
			ways[j] = way[:cap(way)]
		}
		s.r[i].Ways = ways
	}
	q.s = s.copied()
	return q
}

func someAsked(g *rand.Rand) asked {
	s := someOf(g, sizes()).some(g)
	return asked{s: s, day: s.someDay(g), id: s.someId(g)}
}

// R3: no argument is written to, no result shares memory with an argument or another one, and no call remembers another one.
func TestMemory(t *testing.T) {
	g := rand.New(rand.NewSource(20))
	var seen [5]int
	for range 600 {
		q := someAsked(g).spared()
		before := q.behind()
		a := ask(q)
		kept := a.copied()
		for i, list := range a.lists() {
			seen[i] += len(*list)
			for j := range (*list)[:cap(*list)] {
				(*list)[:cap(*list)][j] = 99
			}
		}
		ask(someAsked(g))
		if b := ask(q).copied(); !reflect.DeepEqual(kept, b) {
			t.Fatal(kept, b)
		}
		if !reflect.DeepEqual(before, q.behind()) {
			t.Fatal("an argument is written to, or a result is a part of one")
		}
	}
	if slices.Min(seen[:]) < 50 {
		t.Error("too few of one kind", seen)
	}
}

// R4: an empty list is a nil one.
func TestNilAndEmpty(t *testing.T) {
	x := scene{r: []api.Record{factory(1), batch(2, list(1))}}
	y := scene{r: []api.Record{{Id: 1, Kind: api.RecFactory, Ways: [][]int{}}, batch(2, list(1))}, l: []api.Letter{}, m: []api.Move{}}
	for i, p := range [][2]asked{
		{{s: scene{}}, {s: scene{r: []api.Record{}, l: []api.Letter{}, m: []api.Move{}}}},
		{{s: x, id: 2}, {s: y, id: 2}},
		{{s: x.lettered(withdraw(0, 0, 1)), id: 1}, {s: y.lettered(withdraw(0, 0, 1)), id: 1}},
		{{s: scene{r: []api.Record{factory(1), batch(2, nil)}}}, {s: scene{r: []api.Record{factory(1), batch(2, []int{})}}}},
		{{s: scene{r: []api.Record{factory(1), batch(2)}}}, {s: scene{r: []api.Record{factory(1), batch(2, [][]int{}...)}}}},
	} {
		a, b := ask(p[0]).copied(), ask(p[1]).copied()
		if !reflect.DeepEqual(a, b) {
			t.Error(i, a, b)
		}
		if i < 3 != (a.errors[0] == api.OK) {
			t.Error(i, a.errors)
		}
	}
}

// someNumber is one of any size and sign.
func someNumber(g *rand.Rand) int {
	list := []int{math.MinInt, math.MinInt + 1, -1, -1, 0, 0, 0, 1, 1, 1, 2, 2, 3, 3, 4, 5, 6, 7, 8, 10, 20, 30, 50, 9999, 10000, 99999, 100000, 100001, math.MaxInt32, math.MaxInt - 1, math.MaxInt}
	return someOf(g, list)
}

func someNumbers(g *rand.Rand) []int {
	var numbers []int
	for range g.Intn(6) {
		numbers = append(numbers, someNumber(g))
	}
	return numbers
}

// change changes something of the arguments to any value; each list of the scene has something in it.
func (q *asked) change(g *rand.Rand) {
	r, l, m := &q.s.r[g.Intn(len(q.s.r))], &q.s.l[g.Intn(len(q.s.l))], &q.s.m[g.Intn(len(q.s.m))]
	numbers := []*int{&r.Id, &l.Id, &l.Day, &l.About, &m.Id, &m.Batch, &m.Pieces, &m.Pieces, &q.day, &q.day, &q.id, &q.id}
	kinds := []*uint8{&r.Kind, &l.Kind, &l.Kind, &m.Kind, &m.Kind}
	switch g.Intn(8) {
	case 0, 1, 2:
		*someOf(g, numbers) = someNumber(g)
	case 3, 4:
		*someOf(g, kinds) = uint8(someOf(g, []int{0, 1, 1, 2, 2, 3, 4, 5, 6, 255}))
	case 5:
		r.Ways = append(r.Ways, someNumbers(g))
	case 6:
		if len(r.Ways) > 0 {
			r.Ways[g.Intn(len(r.Ways))] = someNumbers(g)
		}
	case 7:
		switch g.Intn(3) {
		case 0:
			q.s.r = slices.Repeat(q.s.r, between(g, 1, 2))
		case 1:
			q.s.l = slices.Repeat(q.s.l, between(g, 1, 9))
		case 2:
			q.s.m = slices.Repeat(q.s.m, between(g, 1, 9))
		}
	}
}

// R2, R5, R6 and R7: any values at all.
func TestAnyValues(t *testing.T) {
	g := rand.New(rand.NewSource(21))
	seen := map[api.Errno]int{}
	for range 20000 {
		q := asked{s: example(), day: g.Intn(30), id: between(g, 0, 8)}
		for range between(g, 1, 3) {
			q.change(g)
		}
		a := ask(q)
		if !a.zeroBesideErrors() {
			t.Fatal(a, q)
		}
		for i, e := range a.errors {
			seen[e]++
			// What is wrong with records and letters is told by all functions that have both.
			if i != 5 && a.errors[0] != api.OK && e != a.errors[0] {
				t.Fatal(i, a, q)
			}
		}
	}
	for _, e := range []api.Errno{api.OK, api.ErrArg, api.ErrNone, api.ErrBad, api.ErrRecords, api.ErrLetters, api.ErrMoves} {
		if seen[e] < 500 {
			t.Error("never, or too seldom", e, seen)
		}
		delete(seen, e)
	}
	if len(seen) > 0 {
		t.Error("other errors", seen)
	}
}
