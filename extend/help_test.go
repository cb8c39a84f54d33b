package extend_test

import (
	"math/rand"
	"slices"
	"testing"

	"cottonpad/api"
	"cottonpad/class"
	"cottonpad/extend"
)

const (
	same = api.ClauseSame
	upTo = api.ClauseUpTo
	from = api.ClauseFrom
)

func span(lo, hi int) api.Span { return api.Span{Lo: lo, Hi: hi} }

func clause(property int, kind uint8, by, over int) api.Clause {
	return api.Clause{Property: property, Kind: kind, By: by, Over: over}
}

func note(at int, kind uint8, value int) api.Note { return api.Note{At: at, Kind: kind, Value: value} }

// furnaceOf is a run of so many rows whose couple is exact, and on its curve (of 100 degrees) but in the minutes that are given: there it is 10 degrees too hot.
func furnaceOf(rows int, hot ...int) api.Run {
	r := api.Run{
		Curve:   []api.Point{{Degree: 100}, {Minute: 600, Degree: 100}},
		Couples: []api.Couple{{Id: 1}},
	}
	for minute := 1; minute <= rows; minute++ {
		degree := 100
		if slices.Contains(hot, minute) {
			degree = 110
		}
		r.Rows = append(r.Rows, api.Row{Degrees: []int{degree}})
	}
	return r
}

// strict are rules that let a couple differ by 5 degrees.
func strict() api.Rules {
	return api.Rules{Single: 5, SingleFrom: 1, Press: span(-100, 100), PressFrom: 1}
}

// tested is a test with these classes for R, E and I, none of which is above the one before.
func tested(r, e, i int) api.Test {
	t := api.Test{Run: furnaceOf(60), Rules: strict(), End: 3600}
	for _, n := range []struct {
		minutes int
		kinds   []uint8
	}{{i, []uint8{api.CritPoint, api.CritMean}}, {e, []uint8{api.CritGap, api.CritCotton}}, {r, []uint8{api.CritBend, api.CritSpeed}}} {
		for _, kind := range n.kinds {
			t.Notes = append(t.Notes, note(60*n.minutes, kind, 0))
		}
	}
	return t
}

// specimen is one with the same class for all letters.
func specimen(minutes int, props ...int) api.Specimen {
	return api.Specimen{Test: tested(minutes, minutes, minutes), Props: all(props...)}
}

// all are some props, and zeros for those that are not given.
func all(props ...int) []int {
	return append(slices.Clone(props), make([]int, api.MaxProperties-len(props))...)
}

func wish(letter uint8, minutes int, props ...int) api.Wish {
	return api.Wish{Letter: letter, Minutes: minutes, Props: all(props...)}
}

// scene is clauses, specimens and a wish.
type scene struct {
	c []api.Clause
	s []api.Specimen
	w api.Wish
}

// exampleTest is the test of layer 2's examples.
func exampleTest() api.Test {
	t := api.Test{
		Id: 3, Run: furnaceOf(25, 22), Rules: strict(), Clock: span(0, 30), End: 1500,
		Limits: [api.Criteria]int{100, 10, 6, 0, 180, 140},
		Notes: []api.Note{
			note(600, api.CritPoint, 150), note(900, api.CritPoint, 175), note(1000, api.CritCotton, 0), note(1200, api.CritPoint, 195), note(1260, api.CritCotton, 1),
			note(1500, api.CritBend, 60), note(1500, api.CritSpeed, 5), note(1500, api.CritGap, 4), note(1500, api.CritMean, 100),
		},
	}
	t.Run.Couples[0].Error = span(0, 5)
	for i := range t.Notes {
		if t.Notes[i].Kind == api.CritPoint {
			t.Notes[i].Off = span(-10, 10)
		}
	}
	return t
}

// exampleOther is the test B of the chapter's examples.
func exampleOther() api.Test {
	t := exampleTest()
	t.Clock = span(0, 0)
	t.Notes = slices.DeleteFunc(t.Notes, func(n api.Note) bool { return n.Kind == api.CritPoint || n.Kind == api.CritCotton })
	t.Notes = append(t.Notes, note(1500, api.CritPoint, 150), note(1500, api.CritCotton, 0))
	return t
}

func example() scene {
	return scene{
		c: []api.Clause{clause(0, upTo, 100, 0), clause(1, upTo, 0, 0), clause(2, same, 0, 0), clause(0, from, 500, 5)},
		s: []api.Specimen{
			{Test: exampleTest(), Props: all(2000, 1000, 1)},
			{Test: exampleOther(), Props: all(1500, 1200, 1)},
			{Test: exampleTest(), Props: all(2100, 900, 2)},
		},
		w: wish(api.LetterE, 15, 2050, 1100, 1),
	}
}

func copySpecimen(s api.Specimen) api.Specimen {
	s.Props = slices.Clone(s.Props)
	r := &s.Test.Run
	r.Curve, r.Couples, r.Rows = slices.Clone(r.Curve), slices.Clone(r.Couples), slices.Clone(r.Rows)
	for i := range r.Rows {
		r.Rows[i].Degrees = slices.Clone(r.Rows[i].Degrees)
	}
	s.Test.Rules.Steps = slices.Clone(s.Test.Rules.Steps)
	s.Test.Notes = slices.Clone(s.Test.Notes)
	return s
}

func (x scene) copied() scene {
	x.c, x.s, x.w.Props = slices.Clone(x.c), slices.Clone(x.s), slices.Clone(x.w.Props)
	for i := range x.s {
		x.s[i] = copySpecimen(x.s[i])
	}
	return x
}

// with returns a copy with a change.
func (x scene) with(change func(x *scene)) scene {
	x = x.copied()
	change(&x)
	return x
}

// valued returns a copy whose wish has another value of a property.
func (x scene) valued(property, value int) scene {
	x.w.Props = slices.Clone(x.w.Props)
	x.w.Props[property] = value
	return x
}

// everyone is the list of all specimens.
func (x scene) everyone() []int {
	var list []int
	for i := range x.s {
		list = append(list, i)
	}
	return list
}

// covered is whether all specimens cover the wish, by Lacks.
func (x scene) covered(t *testing.T) bool { t.Helper(); return x.lacks(t, x.everyone()...) == -1 }

func (x scene) proves(t *testing.T) [][]int {
	t.Helper()
	l, e := extend.Proves(x.c, x.s, x.w)
	if e != api.OK {
		t.Fatal("Proves", e, x)
	}
	return l
}

func (x scene) lacks(t *testing.T, set ...int) int {
	t.Helper()
	n, e := extend.Lacks(x.c, x.s, x.w, set)
	if e != api.OK {
		t.Fatal("Lacks", set, e, x)
	}
	return n
}

func (x scene) fewest(t *testing.T) []int {
	t.Helper()
	l, e := extend.Fewest(x.c, x.s, x.w)
	if e != api.OK {
		t.Fatal("Fewest", e, x)
	}
	return l
}

func (x scene) apart(t *testing.T) []int {
	t.Helper()
	l, e := extend.Apart(x.c, x.s, x.w)
	if e != api.OK {
		t.Fatal("Apart", e, x)
	}
	return l
}

func (x scene) best(t *testing.T) int {
	t.Helper()
	n, e := extend.Best(x.c, x.s, x.w)
	if e != api.OK {
		t.Fatal("Best", e, x)
	}
	return n
}

func (x scene) reach(t *testing.T, property int) api.Span {
	t.Helper()
	s, e := extend.Reach(x.c, x.s, x.w, property)
	if e != api.OK {
		t.Fatal("Reach", property, e, x)
	}
	return s
}

func between(g *rand.Rand, lo, hi int) int { return lo + g.Intn(hi-lo+1) }

// someClass is a class, or 0; more often a great one.
func someClass(g *rand.Rand) int {
	return []int{0, 5, 10, 15, 20, 30, 30, 45, 45, 60, 60, 60}[g.Intn(12)]
}

func someTest(g *rand.Rand) api.Test {
	list := []int{someClass(g), someClass(g), someClass(g)}
	slices.Sort(list)
	t := tested(list[2], list[1], list[0])
	if g.Intn(6) == 0 {
		minute := between(g, 1, 60)
		t.Run = furnaceOf(60, minute)
	}
	t.Id = between(g, 0, 2)
	return t
}

// value is one of few, so that often several are the same.
func value(g *rand.Rand) int { return between(g, 0, 9) }

func someProps(g *rand.Rand) []int {
	list := all()
	for i := range list {
		list[i] = value(g)
	}
	return list
}

func someClause(g *rand.Rand) api.Clause {
	c := clause(between(g, 0, 5), uint8(between(g, 1, 3)), between(g, 0, 5), 0)
	if c.Kind == same {
		c.By = 0
	}
	if g.Intn(3) == 0 {
		c.Over = between(g, 0, 40)
	}
	return c
}

func someSpecimen(g *rand.Rand) api.Specimen {
	return api.Specimen{Test: someTest(g), Props: someProps(g)}
}

// some is a valid scene of few values, so that some wishes are covered.
func some(g *rand.Rand) scene {
	x := scene{w: api.Wish{Letter: uint8(between(g, 1, 3)), Minutes: between(g, 1, 30), Props: someProps(g)}}
	for range between(g, 1, api.MaxClauses) {
		x.c = append(x.c, someClause(g))
	}
	for range between(g, 0, api.MaxSpecimens) {
		x.s = append(x.s, someSpecimen(g))
	}
	return x
}

// someCovered is a scene whose wish is covered: specimens are changed until they prove what is lacking.
func someCovered(t *testing.T, g *rand.Rand) scene {
	for {
		x := some(g)
		for i := range x.c {
			x.c[i].Over = min(x.c[i].Over, 30)
		}
		for range x.c {
			lacking := x.lacks(t, x.everyone()...)
			if lacking == -1 {
				return x
			}
			if len(x.s) > 0 {
				n := g.Intn(len(x.s))
				x.s[n].Test = tested(60, 60, 60)
				x.s[n].Props[x.c[lacking].Property] = x.w.Props[x.c[lacking].Property]
			}
		}
	}
}

// classOf is the class of a specimen that holds whatever is true.
func classOf(t *testing.T, s api.Specimen, letter uint8) int {
	t.Helper()
	c, e := class.Class(s.Test, letter)
	if e != api.OK {
		t.Fatal(e)
	}
	return c.Lo
}

// truth is a table of which specimen proves which clause, by the words of the chapter.
func (x scene) truth(t *testing.T) [][]bool {
	t.Helper()
	table := make([][]bool, len(x.c))
	for _, s := range x.s {
		minutes := classOf(t, s, x.w.Letter)
		for i, c := range x.c {
			a, b := x.w.Props[c.Property], s.Props[c.Property]
			fits := map[uint8]bool{same: a == b, upTo: a <= b+c.By, from: a >= b-c.By}[c.Kind]
			table[i] = append(table[i], fits && minutes >= x.w.Minutes+c.Over)
		}
	}
	return table
}
