package extend_test

import (
	"math"
	"math/rand"
	"reflect"
	"slices"
	"testing"

	"cottonpad/api"
	"cottonpad/extend"
)

// answers is all that the functions of the package return of the same arguments.
type answers struct {
	proves        [][]int
	fewest, apart []int
	lacks, best   int
	reach         api.Span
	errors        [7]api.Errno
}

func ask(x scene, set []int, property int) answers {
	var a answers
	a.errors[0] = extend.Check(x.c, x.s, x.w)
	a.proves, a.errors[1] = extend.Proves(x.c, x.s, x.w)
	a.lacks, a.errors[2] = extend.Lacks(x.c, x.s, x.w, set)
	a.fewest, a.errors[3] = extend.Fewest(x.c, x.s, x.w)
	a.apart, a.errors[4] = extend.Apart(x.c, x.s, x.w)
	a.best, a.errors[5] = extend.Best(x.c, x.s, x.w)
	a.reach, a.errors[6] = extend.Reach(x.c, x.s, x.w, property)
	return a
}

// zeroBesideErrors is R2.
func (a answers) zeroBesideErrors() bool {
	return (a.errors[1] == api.OK || len(a.proves) == 0) &&
		(a.errors[2] == api.OK || a.lacks == 0) &&
		(a.errors[3] == api.OK || len(a.fewest) == 0) &&
		(a.errors[4] == api.OK || len(a.apart) == 0) &&
		(a.errors[5] == api.OK || a.best == 0) &&
		(a.errors[6] == api.OK || a.reach == api.Span{})
}

// spare puts a list into memory that goes on behind it, with marks that must stay.
func spare[T any](list []T, mark T) []T {
	return append(slices.Clone(list), mark, mark)[:len(list)]
}

func (x scene) spared() scene {
	x = x.copied()
	for i := range x.s {
		s := &x.s[i]
		s.Props = spare(s.Props, 77)
		s.Test.Notes = spare(s.Test.Notes, api.Note{At: 77})
		s.Test.Run.Curve = spare(s.Test.Run.Curve, api.Point{Minute: 77})
		s.Test.Run.Couples = spare(s.Test.Run.Couples, api.Couple{Id: 77})
		s.Test.Run.Rows = spare(s.Test.Run.Rows, api.Row{Press: 77})
		s.Test.Rules.Steps = spare(s.Test.Rules.Steps, api.Step{From: 77})
	}
	x.c, x.s, x.w.Props = spare(x.c, clause(77, 77, 77, 77)), spare(x.s, api.Specimen{Props: []int{77}}), spare(x.w.Props, 77)
	return x
}

// behind is a copy of all memory of a scene, to the capacity of each list.
func (x scene) behind() scene {
	x.c, x.s, x.w.Props = x.c[:cap(x.c)], slices.Clone(x.s[:cap(x.s)]), x.w.Props[:cap(x.w.Props)]
	for i := range x.s {
		s := &x.s[i]
		s.Props, s.Test.Notes = s.Props[:cap(s.Props)], s.Test.Notes[:cap(s.Test.Notes)]
		r := &s.Test.Run
		r.Curve, r.Couples, r.Rows = r.Curve[:cap(r.Curve)], r.Couples[:cap(r.Couples)], r.Rows[:cap(r.Rows)]
		s.Test.Rules.Steps = s.Test.Rules.Steps[:cap(s.Test.Rules.Steps)]
	}
	return x.copied()
}

// scribble writes to all memory of a list of numbers.
func scribble(list []int) {
	for i := range list[:cap(list)] {
		list[:cap(list)][i] = 99
	}
}

// copied is the same answers in other memory, to the lengths of the lists.
func (a answers) copied() answers {
	a.fewest, a.apart, a.proves = slices.Clone(a.fewest), slices.Clone(a.apart), slices.Clone(a.proves)
	for i := range a.proves {
		a.proves[i] = slices.Clone(a.proves[i])
	}
	return a
}

// R3: no argument is written to, no result shares memory with an argument or another one, and no call remembers another one.
func TestMemory(t *testing.T) {
	g := rand.New(rand.NewSource(20))
	for range 200 {
		x := someCovered(t, g).spared()
		all := lists(len(x.s))
		set, property := spare(all[g.Intn(len(all))], 77), between(g, 0, 5)
		before, list := x.behind(), slices.Clone(set[:cap(set)])
		a := ask(x, set, property)
		kept := a.copied()
		scribble(a.fewest)
		if !slices.Equal(a.apart, kept.apart) || !reflect.DeepEqual(a.proves, kept.proves) {
			t.Fatal("results share memory")
		}
		scribble(a.apart)
		for i := range a.proves {
			if !slices.Equal(a.proves[i], kept.proves[i]) {
				t.Fatal("lists of a result share memory")
			}
			scribble(a.proves[i])
		}
		ask(some(g), nil, 0)
		if b := ask(x, set, property); !reflect.DeepEqual(kept, b.copied()) {
			t.Fatal(kept, b)
		}
		if !reflect.DeepEqual(before, x.behind()) || !slices.Equal(list, set[:cap(set)]) {
			t.Fatal("an argument is written to, or a result is a part of one")
		}
	}
}

// R4: an empty list is a nil one.
func TestNilAndEmpty(t *testing.T) {
	x := example()
	x.s = nil
	a := ask(x, nil, 0)
	x.s = []api.Specimen{}
	if b := ask(x, []int{}, 0); !reflect.DeepEqual(a, b) {
		t.Error(a, b)
	}
	x = example()
	if a, b := ask(x, nil, 0), ask(x, []int{}, 0); !reflect.DeepEqual(a, b) {
		t.Error(a, b)
	}
}

// someNumber is one of any size and sign.
func someNumber(g *rand.Rand) int {
	list := []int{math.MinInt, math.MinInt + 1, -100001, -1, 0, 1, 2, 5, 6, 59, 60, 61, 100000, 100001, math.MaxInt32, math.MaxInt - 60, math.MaxInt - 1, math.MaxInt}
	return list[g.Intn(len(list))]
}

// change changes a number of a scene, or a list, to any one.
func (x *scene) change(g *rand.Rand) {
	c, s := &x.c[g.Intn(len(x.c))], &x.s[g.Intn(len(x.s))]
	n := someNumber(g)
	switch g.Intn(13) {
	case 0:
		c.Property = n
	case 1:
		c.Kind = uint8(n)
	case 2:
		c.By = n
	case 3:
		c.Over = n
	case 4:
		s.Test.Id = n
	case 5:
		s.Test.End = n
	case 6:
		s.Test.Run.Couples[0].Error.Hi = n
	case 7:
		s.Props = slices.Repeat([]int{n}, between(g, 5, 7))
	case 8:
		s.Test.Limits[g.Intn(api.Criteria)] = n
	case 9:
		x.w.Letter = uint8(n)
	case 10:
		x.w.Minutes = n
	case 11:
		x.w.Props = slices.Repeat([]int{n}, between(g, 5, 7))
	case 12:
		x.c, x.s = slices.Repeat(x.c, between(g, 1, 3)), slices.Repeat(x.s, between(g, 1, 3))
	}
}

// R2, R5 and R7: any values at all.
func TestAnyValues(t *testing.T) {
	g := rand.New(rand.NewSource(21))
	seen := map[api.Errno]int{}
	for range 3000 {
		x := example().copied()
		for range between(g, 1, 3) {
			x.change(g)
		}
		var set []int
		for range g.Intn(4) {
			set = append(set, []int{0, 1, 2, someNumber(g)}[g.Intn(4)])
		}
		a := ask(x, set, someNumber(g))
		if !a.zeroBesideErrors() {
			t.Fatal(a, x)
		}
		for _, e := range a.errors {
			seen[e]++
			if a.errors[0] != api.OK && e != a.errors[0] {
				t.Fatal(a, x)
			}
		}
	}
	for _, e := range []api.Errno{api.OK, api.ErrArg, api.ErrNone, api.ErrClauses, api.ErrSpecimens, api.ErrWish} {
		if seen[e] == 0 {
			t.Error("never", e)
		}
	}
}

// R5: the greatest numbers that there can be.
func TestGreatest(t *testing.T) {
	x := scene{w: wish(api.LetterI, 60)}
	for i := range api.MaxClauses {
		x.c = append(x.c, clause(i%api.MaxProperties, uint8(upTo+i%2), 100000, 0))
	}
	for range api.MaxSpecimens {
		x.s = append(x.s, specimen(60, 100000, 0, 100000, 0, 100000, 0))
	}
	a := ask(x, x.everyone(), 0)
	want := answers{proves: slices.Repeat([][]int{{0, 1, 2, 3, 4, 5, 6, 7}}, 8), fewest: []int{0}, apart: []int{0}, lacks: -1, best: 60, reach: span(0, 100000)}
	if !reflect.DeepEqual(a, want) {
		t.Error(a)
	}
	for i := range x.c {
		x.c[i].Over = 60
	}
	x.w.Minutes = 60
	if l := x.proves(t); !slices.EqualFunc(l, make([][]int, 8), slices.Equal) {
		t.Error(l)
	}
}
