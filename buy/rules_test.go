package buy_test

import (
	"math"
	"math/rand"
	"reflect"
	"slices"
	"testing"

	"cottonpad/api"
	"cottonpad/buy"
)

// asked is all that the functions of the package are asked with.
type asked struct {
	x      scene
	leaf   api.Leaf
	leaves []api.Leaf
	coins  int
}

// answers is all that the functions of the package return of the same arguments.
type answers struct {
	fits   [][]int
	plan   []int
	coins  int
	proof  []api.Leaf
	bound  int
	known  uint8
	errors [6]api.Errno
}

func ask(q asked) answers {
	var a answers
	x := q.x
	a.errors[0] = buy.Check(x.c, x.s, x.m, x.o)
	a.fits, a.errors[1] = buy.Fits(x.c, x.s, x.m, x.o)
	a.plan, a.coins, a.errors[2] = buy.Cheapest(x.c, x.s, x.m, x.o)
	a.proof, a.errors[3] = buy.Proof(x.c, x.s, x.m, x.o)
	a.bound, a.errors[4] = buy.Bound(x.c, x.s, x.m, x.o, q.leaf)
	a.known, a.errors[5] = buy.Proves(x.c, x.s, x.m, x.o, q.leaves, q.coins)
	return a
}

// zeroBesideErrors is R2.
func (a answers) zeroBesideErrors() bool {
	return (a.errors[1] == api.OK || len(a.fits) == 0) &&
		(a.errors[2] == api.OK || len(a.plan) == 0 && a.coins == 0) &&
		(a.errors[3] == api.OK || len(a.proof) == 0) &&
		(a.errors[4] == api.OK || a.bound == 0) &&
		(a.errors[5] == api.OK || a.known == 0)
}

// copied is the same answers in other memory; an empty list becomes a nil one.
func (a answers) copied() answers {
	fits, proof := a.fits, a.proof
	a.fits, a.proof, a.plan = nil, nil, append([]int(nil), a.plan...)
	for _, list := range fits {
		a.fits = append(a.fits, append([]int(nil), list...))
	}
	for _, l := range proof {
		a.proof = append(a.proof, leaf(append([]int(nil), l.In...), append([]int(nil), l.Out...)))
	}
	return a
}

// spare puts a list into memory that goes on behind it, with marks that must stay.
func spare[T any](list []T, mark T) []T {
	return append(slices.Clone(list), mark, mark)[:len(list)]
}

func spareLeaf(l api.Leaf) api.Leaf { return leaf(spare(l.In, 77), spare(l.Out, 77)) }

func (q asked) spared() asked {
	x := q.x.copied()
	for i := range x.s {
		s := &x.s[i]
		s.Props, s.Test.Notes = spare(s.Props, 77), spare(s.Test.Notes, api.Note{At: 77})
		s.Test.Run.Rows = spare(s.Test.Run.Rows, api.Row{Press: 77})
	}
	for i := range x.m {
		x.m[i].Tests = spare(x.m[i].Tests, 77)
	}
	for i := range x.o {
		x.o[i].Wish.Props = spare(x.o[i].Wish.Props, 77)
	}
	x.c, x.s = spare(x.c, api.Clause{By: 77}), spare(x.s, api.Specimen{Props: list(77)})
	x.m, x.o = spare(x.m, model(77, 77, 77)), spare(x.o, opening(77, 77, 77))
	leaves := copyLeaves(q.leaves)
	for i, l := range leaves {
		leaves[i] = spareLeaf(l)
	}
	return asked{x: x, leaf: spareLeaf(q.leaf), leaves: spare(leaves, leaf(list(77), list(77))), coins: q.coins}
}

// wholeLeaf is a leaf to the capacity of its lists.
func wholeLeaf(l api.Leaf) api.Leaf { return leaf(l.In[:cap(l.In)], l.Out[:cap(l.Out)]) }

// behind is a copy of all memory of arguments, to the capacity of each list.
func (q asked) behind() asked {
	x := q.x
	x.c, x.s, x.m, x.o = x.c[:cap(x.c)], slices.Clone(x.s[:cap(x.s)]), slices.Clone(x.m[:cap(x.m)]), slices.Clone(x.o[:cap(x.o)])
	for i := range x.s {
		s := &x.s[i]
		s.Props, s.Test.Notes, s.Test.Run.Rows = s.Props[:cap(s.Props)], s.Test.Notes[:cap(s.Test.Notes)], s.Test.Run.Rows[:cap(s.Test.Run.Rows)]
	}
	for i := range x.m {
		x.m[i].Tests = x.m[i].Tests[:cap(x.m[i].Tests)]
	}
	for i := range x.o {
		x.o[i].Wish.Props = x.o[i].Wish.Props[:cap(x.o[i].Wish.Props)]
	}
	leaves := slices.Clone(q.leaves[:cap(q.leaves)])
	for i, l := range leaves {
		leaves[i] = wholeLeaf(l)
	}
	return asked{x: x.copied(), leaf: copyLeaves([]api.Leaf{wholeLeaf(q.leaf)})[0], leaves: copyLeaves(leaves), coins: q.coins}
}

// scribble writes to all memory of a list of numbers.
func scribble(list []int) {
	for i := range list[:cap(list)] {
		list[:cap(list)][i] = 99
	}
}

// lists are all lists of numbers of some answers.
func (a answers) lists() [][]int {
	all := append([][]int{a.plan}, a.fits...)
	for _, l := range a.proof {
		all = append(all, l.In, l.Out)
	}
	return all
}

func someAsked(t *testing.T, g *rand.Rand) asked {
	x := someOf(g, sizes()).planned(t, g)
	return asked{x: x, leaf: someLeaf(g, len(x.m)), leaves: someTree(g, len(x.m), g.Intn(20)), coins: g.Intn(2 * (x.least(t) + 1))}
}

// R3: no argument is written to, no result shares memory with an argument or another one, and no call remembers another one.
func TestMemory(t *testing.T) {
	g := rand.New(rand.NewSource(20))
	numbers, long := 0, 0
	for range 300 {
		q := someAsked(t, g).spared()
		before := q.behind()
		a := ask(q)
		kept := a.copied()
		// Each list is written to, and must not change the ones after it.
		keptLists := kept.lists()
		for i, list := range a.lists() {
			if !slices.Equal(list, keptLists[i]) {
				t.Fatal("lists share memory", i, a, kept)
			}
			scribble(list)
			numbers += len(list)
		}
		long = max(long, len(a.proof))
		for i := range a.proof[:cap(a.proof)] {
			a.proof[:cap(a.proof)][i] = leaf(list(99), list(98))
		}
		for i := range a.fits[:cap(a.fits)] {
			a.fits[:cap(a.fits)][i] = list(99)
		}
		ask(someAsked(t, g))
		if b := ask(q).copied(); !reflect.DeepEqual(kept, b) {
			t.Fatal(kept, b)
		}
		if !reflect.DeepEqual(before, q.behind()) {
			t.Fatal("an argument is written to, or a result is a part of one")
		}
	}
	if numbers < 5000 || long < 30 {
		t.Error("too few", numbers, long)
	}
}

// R4: an empty list is a nil one.
func TestNilAndEmpty(t *testing.T) {
	x := example().with(func(x *scene) { x.m[0].Tests = nil })
	y := x.with(func(x *scene) { x.m[0].Tests = []int{} })
	for i, p := range [][2]asked{
		{{x: x}, {x: y, leaf: leaf([]int{}, []int{}), leaves: []api.Leaf{}}},
		{{x: x, leaves: []api.Leaf{{}}}, {x: y, leaves: []api.Leaf{leaf([]int{}, []int{})}}},
		{{x: scene{c: x.c, m: []api.Model{{}}, o: x.o}}, {x: scene{c: x.c, s: []api.Specimen{}, m: []api.Model{{}}, o: x.o}}},
		{{x: scene{c: x.c, s: x.s, o: x.o}}, {x: scene{c: x.c, s: x.s, m: []api.Model{}, o: x.o}}},
		{{x: scene{c: x.c, s: x.s, m: x.m}}, {x: scene{c: x.c, s: x.s, m: x.m, o: []api.Opening{}}}},
		{{x: scene{}}, {x: scene{c: []api.Clause{}, s: []api.Specimen{}, m: []api.Model{}, o: []api.Opening{}}}},
	} {
		a, b := ask(p[0]).copied(), ask(p[1]).copied()
		if !reflect.DeepEqual(a, b) {
			t.Error(i, a, b)
		}
		if i < 3 != (a.errors[0] == api.OK) {
			t.Error(i, a.errors)
		}
	}
	if a := ask(asked{x: x, leaves: []api.Leaf{{}}}); a.errors != [6]api.Errno{} || a.known != api.KnownYes {
		t.Error(a)
	}
}

// someNumber is one of any size and sign.
func someNumber(g *rand.Rand) int {
	list := []int{math.MinInt, math.MinInt + 1, -1001, -1, 0, 0, 0, 1, 1, 1, 2, 2, 3, 5, 6, 7, 8, 9, 60, 61, 99, 100, 101, 1000000, 1000001, 1000000000000, 1000000000001, math.MaxInt32, math.MaxInt - 120, math.MaxInt - 1, math.MaxInt}
	return someOf(g, list)
}

// someNumbers is a list that may be one of indices.
func someNumbers(g *rand.Rand) []int {
	if g.Intn(3) > 0 {
		return someIndices(g, 3, 50)
	}
	var numbers []int
	for range g.Intn(4) {
		numbers = append(numbers, someNumber(g))
	}
	return numbers
}

// change changes something of the arguments to any value; each list of the scene has something in it.
func (q *asked) change(g *rand.Rand) {
	m, o, c, s := &q.x.m[g.Intn(len(q.x.m))], &q.x.o[g.Intn(len(q.x.o))], &q.x.c[g.Intn(len(q.x.c))], &q.x.s[g.Intn(len(q.x.s))]
	numbers := []*int{&m.Fee, &m.Fee, &m.Price, &m.Price, &o.Count, &o.Count, &o.Wish.Minutes, &o.Wish.Props[g.Intn(6)], &c.Property, &c.By, &c.Over, &s.Test.End, &s.Props[g.Intn(6)]}
	switch g.Intn(10) {
	case 0, 1:
		*someOf(g, numbers) = someNumber(g)
	case 2:
		m.Tests = someNumbers(g)
	case 3:
		q.leaf = leaf(someNumbers(g), someNumbers(g))
	case 4:
		q.leaves = append(q.leaves, leaf(someNumbers(g), someNumbers(g)))
	case 5:
		q.coins = someNumber(g)
	case 6:
		q.x.m = slices.Repeat(q.x.m, between(g, 1, 3))
	case 7:
		q.x.o = slices.Repeat(q.x.o, between(g, 1, 4))
	case 8:
		q.leaves = slices.Repeat(q.leaves, someOf(g, []int{0, 1, 2, 300}))
	case 9:
		q.x.c, q.x.s = slices.Repeat(q.x.c, between(g, 1, 3)), slices.Repeat(q.x.s, between(g, 1, 3))
	}
}

// R2, R5, R6 and R7: any values at all.
func TestAnyValues(t *testing.T) {
	g := rand.New(rand.NewSource(21))
	seen := map[api.Errno]int{}
	for range 4000 {
		q := asked{x: example(), leaf: someLeaf(g, 3), leaves: someTree(g, 3, g.Intn(4)), coins: g.Intn(300)}
		for range between(g, 1, 3) {
			q.change(g)
		}
		a := ask(q)
		if !a.zeroBesideErrors() {
			t.Fatal(a, q)
		}
		for _, e := range a.errors {
			seen[e]++
			// What is wrong with the scene is told by all functions.
			if a.errors[0] != api.OK && e != a.errors[0] {
				t.Fatal(a, q)
			}
		}
	}
	for _, e := range []api.Errno{api.OK, api.ErrArg, api.ErrNone, api.ErrClauses, api.ErrSpecimens, api.ErrModels, api.ErrOpenings, api.ErrLeaves} {
		if seen[e] < 100 {
			t.Error("never, or too seldom", e, seen)
		}
		delete(seen, e)
	}
	if len(seen) > 0 {
		t.Error("other errors", seen)
	}
}
