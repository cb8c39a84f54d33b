package exits_test

import (
	"math"
	"math/rand"
	"reflect"
	"slices"
	"testing"

	"cottonpad/api"
	"cottonpad/exits"
)

// asked is all that the functions of the package are asked with.
type asked struct {
	s     scene
	stair int
	like  api.Walker
}

// answers is all that the functions of the package return of the same arguments.
type answers struct {
	leaves []api.Span
	out    api.Span
	safe   told
	more   int
	errors [5]api.Errno
}

func ask(x asked) answers {
	var a answers
	a.errors[0] = exits.Check(x.s.b, x.s.w)
	a.leaves, a.errors[1] = exits.Leaves(x.s.b, x.s.w, x.stair)
	a.out, a.errors[2] = exits.Out(x.s.b, x.s.w)
	a.safe.known, a.safe.chamber, a.safe.stair, a.errors[3] = exits.Safe(x.s.b, x.s.w)
	a.more, a.errors[4] = exits.More(x.s.b, x.s.w, x.like)
	return a
}

// zeroBesideErrors is R2.
func (a answers) zeroBesideErrors() bool {
	return (a.errors[1] == api.OK || len(a.leaves) == 0) &&
		(a.errors[2] == api.OK || a.out == api.Span{}) &&
		(a.errors[3] == api.OK || a.safe == told{}) &&
		(a.errors[4] == api.OK || a.more == 0)
}

// ordered returns whether spans are not empty, whether places in the order of leaving have times in this order, and whether somebody is shown just if not all is known.
func (a answers) ordered() bool {
	for i, l := range a.leaves {
		if l.Lo > l.Hi || i > 0 && (l.Lo < a.leaves[i-1].Lo || l.Hi < a.leaves[i-1].Hi) {
			return false
		}
	}
	shown := a.safe.chamber != -1 || a.safe.stair != -1
	return a.out.Lo <= a.out.Hi && (a.errors[3] != api.OK || shown == (a.safe.known != api.KnownYes))
}

// copied is the same answers in other memory; an empty list becomes a nil one.
func (a answers) copied() answers {
	a.leaves = append([]api.Span(nil), a.leaves...)
	return a
}

// spare puts a list into memory that goes on behind it, with marks that must stay.
func spare[T any](list []T, mark T) []T {
	return append(slices.Clone(list), mark, mark)[:len(list)]
}

func (x asked) spared() asked {
	x.s.b.Stairs, x.s.b.Chambers, x.s.w = spare(x.s.b.Stairs, api.Stair{Gap: 77}), spare(x.s.b.Chambers, api.Chamber{Way: 77}), spare(x.s.w, api.Walker{Chamber: 77})
	return x
}

// behind is a copy of all memory of arguments, to the capacity of each list.
func (x asked) behind() asked {
	b := x.s.b
	x.s = scene{api.Building{Stairs: b.Stairs[:cap(b.Stairs)], Chambers: b.Chambers[:cap(b.Chambers)]}, x.s.w[:cap(x.s.w)]}.copied()
	return x
}

func someAsked(g *rand.Rand) asked {
	z := someOf(g, append(sizes(), small()))
	s := z.poised(g)
	return asked{s: s, stair: g.Intn(len(s.b.Stairs)), like: z.walker(g, len(s.b.Chambers))}
}

// R3: no argument is written to, no result shares memory with an argument, and no call remembers another one.
func TestMemory(t *testing.T) {
	g := rand.New(rand.NewSource(20))
	leaves, more := 0, 0
	for range 500 {
		x := someAsked(g).spared()
		before := x.behind()
		a := ask(x)
		kept := a.copied()
		leaves += len(a.leaves)
		more += a.more
		for i := range a.leaves[:cap(a.leaves)] {
			a.leaves[:cap(a.leaves)][i] = span(99, 98)
		}
		ask(someAsked(g))
		if b := ask(x).copied(); !reflect.DeepEqual(kept, b) {
			t.Fatal(kept, b)
		}
		if !reflect.DeepEqual(before, x.behind()) {
			t.Fatal("an argument is written to, or a result is a part of one")
		}
	}
	if leaves < 500 || more < 50 {
		t.Error("too few of one kind", leaves, more)
	}
}

// R4: an empty list is a nil one.
func TestNilAndEmpty(t *testing.T) {
	x := asked{s: scene{b: example().b}, like: anybody()}
	y := asked{s: scene{b: example().b, w: []api.Walker{}}, like: anybody()}
	if a, b := ask(x).copied(), ask(y).copied(); !reflect.DeepEqual(a, b) || a.errors != [5]api.Errno{} {
		t.Error(a, b)
	}
	x.s.b = api.Building{}
	y.s.b = api.Building{Stairs: []api.Stair{}, Chambers: []api.Chamber{}}
	if a, b := ask(x).copied(), ask(y).copied(); !reflect.DeepEqual(a, b) || a.errors[0] != api.ErrBuilding {
		t.Error(a, b)
	}
}

// someNumber is one of any size and sign.
func someNumber(g *rand.Rand) int {
	list := []int{math.MinInt, math.MinInt + 1, -1001, -1, -1, 0, 0, 0, 1, 1, 1, 2, 2, 3, 5, 6, 7, 8, 24, 25, 60, 61, 99, 100, 101, 600, 601, 3000, 3001, 3600, 3601, 36000, 36001, 100000, 100001, math.MaxInt32, math.MaxInt - 120, math.MaxInt - 1, math.MaxInt}
	return someOf(g, list)
}

func anySpan(g *rand.Rand) api.Span {
	n := someNumber(g)
	return someOf(g, []api.Span{only(n), span(0, n), span(100, n), span(n, someNumber(g))})
}

// change changes something of the arguments to any value; each list has something in it.
func (x *asked) change(g *rand.Rand) {
	s, c, w := &x.s.b.Stairs[g.Intn(len(x.s.b.Stairs))], &x.s.b.Chambers[g.Intn(len(x.s.b.Chambers))], &x.s.w[g.Intn(len(x.s.w))]
	numbers := []*int{&s.Next, &s.Gap, &c.Stair, &c.Way, &w.Chamber, &x.stair, &x.like.Chamber}
	spans := []*api.Span{&s.Walk, &s.Smoke, &c.Smoke, &w.Pace, &w.Wait, &x.like.Pace, &x.like.Wait}
	switch g.Intn(8) {
	case 0, 1, 2:
		*someOf(g, numbers) = someNumber(g)
	case 3, 4, 5:
		*someOf(g, spans) = anySpan(g)
	case 6:
		x.s.w = slices.Repeat(x.s.w, between(g, 1, 10))
	case 7:
		x.s.b.Stairs, x.s.b.Chambers = slices.Repeat(x.s.b.Stairs, between(g, 1, 2)), slices.Repeat(x.s.b.Chambers, between(g, 1, 5))
	}
}

// R2, R5, R6 and R7: any values at all.
func TestAnyValues(t *testing.T) {
	g := rand.New(rand.NewSource(21))
	seen := map[api.Errno]int{}
	for range 20000 {
		x := asked{s: example(), stair: g.Intn(2), like: anybody()}
		for range between(g, 1, 3) {
			x.change(g)
		}
		a := ask(x)
		if !a.zeroBesideErrors() || !a.ordered() {
			t.Fatal(a, x)
		}
		for _, e := range a.errors {
			seen[e]++
			// What is wrong with a building, or with people, is told by all functions.
			if a.errors[0] != api.OK && e != a.errors[0] {
				t.Fatal(a, x)
			}
		}
	}
	for _, e := range []api.Errno{api.OK, api.ErrArg, api.ErrBad, api.ErrBuilding, api.ErrWalkers} {
		if seen[e] < 100 {
			t.Error("never, or too seldom", e, seen)
		}
		delete(seen, e)
	}
	if len(seen) > 0 {
		t.Error("other errors", seen)
	}
}
