package burn_test

import (
	"math"
	"math/rand"
	"slices"
	"testing"

	"cottonpad/api"
	"cottonpad/burn"
)

// asked is all arguments but the hood, the lamp, and their numbers.
type asked struct{ second, from, to, level int }

// answers is all that the functions of the package return of the same arguments.
type answers struct {
	spans  [6]api.Span
	known  uint8
	errors [7]api.Errno
}

func ask(x fire, l glow, n asked) answers {
	var a answers
	a.spans[0], a.errors[0] = burn.Heat(x.h, x.r, n.second)
	a.spans[1], a.errors[1] = burn.Sum(x.h, x.r, n.from, n.to)
	a.spans[2], a.known, a.errors[2] = burn.First(x.h, x.r, n.level)
	a.spans[3], a.errors[3] = burn.Clean(l.l, l.r, n.second)
	a.spans[4], a.errors[4] = burn.Dark(l.l, l.r, n.second)
	a.spans[5], a.errors[5] = burn.Smoke(l.l, l.r, n.from, n.to)
	a.errors[6] = burn.Check(x.h, x.r)
	return a
}

// zeroBesideErrors is R2.
func (a answers) zeroBesideErrors() bool {
	for i, s := range a.spans {
		if a.errors[i] != api.OK && s != (api.Span{}) {
			return false
		}
	}
	return a.errors[2] == api.OK || a.known == 0
}

// ordered returns whether no span has a Lo above its Hi, or a number below 0, and known is one that there is.
func (a answers) ordered() bool {
	return !slices.ContainsFunc(a.spans[:], func(s api.Span) bool { return s.Lo < 0 || s.Lo > s.Hi }) && a.known <= api.KnownYes
}

// spare puts a list into memory that goes on behind it, with marks that must stay.
func spare(list []int) []int { return append(slices.Clone(list), 77, 77)[:len(list)] }

// behind is a copy of all memory of a list, to its capacity.
func behind(list []int) []int { return slices.Clone(list[:cap(list)]) }

// R3: no argument is written to, and no call remembers another one.
func TestMemory(t *testing.T) {
	g := rand.New(rand.NewSource(20))
	for range 300 {
		x, l := some(g), someLamp(g, 1000, 30)
		x.r, l.r = spare(x.r), spare(l.r)
		reads, lights := behind(x.r), behind(l.r)
		n := asked{second: between(g, 0, 10), to: between(g, 0, 10), level: someLevel(t, g, x)}
		before := ask(x, l, n)
		ask(some(g), someLamp(g, 1000, 30), asked{level: 1})
		if after := ask(x, l, n); before != after {
			t.Fatal(before, after)
		}
		if !slices.Equal(reads, behind(x.r)) || !slices.Equal(lights, behind(l.r)) {
			t.Fatal("an argument is written to")
		}
	}
}

// R4: an empty list is a nil one.
func TestNilAndEmpty(t *testing.T) {
	x, l := example(), exampleGlow()
	for _, n := range []asked{{}, {level: 1}, {to: 1, level: 1}} {
		x.r, l.r = nil, nil
		a := ask(x, l, n)
		x.r, l.r = []int{}, []int{}
		if b := ask(x, l, n); a != b {
			t.Error(n, a, b)
		}
	}
}

// someNumber is one of any size and sign.
func someNumber(g *rand.Rand) int {
	list := []int{math.MinInt, math.MinInt + 1, -1001, -1, 0, 0, 1, 1, 2, 3, 4, 5, 30, 31, 120, 121, 1000, 1001, 10000, 10001, 30000, 30001, 1000000, 1000001, math.MaxInt32, math.MaxInt - 120, math.MaxInt - 1, math.MaxInt}
	return list[g.Intn(len(list))]
}

// change changes a number of a fire, or its readings, to any one.
func (x *fire) change(g *rand.Rand) {
	n := someNumber(g)
	spans := []*api.Span{&x.h.Base, &x.h.Flow, &x.h.Joule, &x.h.Lag}
	switch which := g.Intn(8); which {
	case 4:
		x.h.Drift = n
	case 5:
		x.r[g.Intn(len(x.r))] = n
	case 6:
		x.r = slices.Repeat(x.r, between(g, 1, 30))
	case 7:
		x.h.Lag = span(between(g, 0, 3), between(g, 0, 6))
	default:
		*spans[which] = []api.Span{span(n, n), span(0, n), span(n, someNumber(g))}[g.Intn(3)]
	}
}

func (x *glow) change(g *rand.Rand) {
	n := someNumber(g)
	switch g.Intn(4) {
	case 0:
		x.l.Before = n
	case 1:
		x.l.After = n
	case 2:
		x.r[g.Intn(len(x.r))] = n
	case 3:
		x.r = slices.Repeat(x.r, between(g, 1, 40))
	}
}

// R2, R5, R6 and R7: any values at all.
func TestAnyValues(t *testing.T) {
	g := rand.New(rand.NewSource(21))
	seen := map[api.Errno]int{}
	for range 5000 {
		x, l := example().with(func(x *fire) { x.change(g) }), exampleGlow().with(func(x *glow) { x.change(g) })
		if g.Intn(3) == 0 {
			x.change(g)
			l.change(g)
		}
		a := ask(x, l, asked{someNumber(g), someNumber(g), someNumber(g), someNumber(g)})
		if !a.zeroBesideErrors() || !a.ordered() {
			t.Fatal(a, x, l)
		}
		for i, e := range a.errors {
			seen[e]++
			if first := a.errors[6]; i < 3 && first != api.OK && e != first {
				t.Fatal(a, x, l)
			}
		}
	}
	for _, e := range []api.Errno{api.OK, api.ErrArg, api.ErrHood, api.ErrReads, api.ErrLamp} {
		if seen[e] < 100 {
			t.Error("never, or too seldom", e, seen)
		}
		delete(seen, e)
	}
	if len(seen) > 0 {
		t.Error("other errors", seen)
	}
}
