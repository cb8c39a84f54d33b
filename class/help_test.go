package class_test

import (
	"math/rand"
	"slices"
	"testing"

	"cottonpad/api"
	"cottonpad/class"
)

func span(lo, hi int) api.Span { return api.Span{Lo: lo, Hi: hi} }

func note(at int, kind uint8, value int) api.Note { return api.Note{At: at, Kind: kind, Value: value} }

func fail(held uint8, lo, hi int) api.Fail { return api.Fail{Held: held, At: span(lo, hi)} }

// furnaceOf is a run of so many rows whose couple is exact, and on its curve (of 100 degrees) but in the minutes that are given: there it is 10 degrees too hot.
func furnaceOf(rows int, hot ...int) api.Run {
	r := api.Run{
		Curve:   []api.Point{{Degree: 100}, {Minute: 600, Degree: 100}},
		Couples: []api.Couple{{Id: 1}},
	}
	for minute := 1; minute <= rows; minute++ {
		degree := 100
		if slices.Contains(hot, minute) {
			degree = 110
		}
		r.Rows = append(r.Rows, api.Row{Degrees: []int{degree}})
	}
	return r
}

// strict are rules that let a couple differ by 5 degrees.
func strict() api.Rules {
	return api.Rules{Single: 5, SingleFrom: 1, Press: span(-100, 100), PressFrom: 1}
}

// doubtful lets the couple of a run err by so much that each minute that is hot may be too hot, and need not be.
func doubtful(r api.Run) api.Run {
	r.Couples[0].Error = span(0, 5)
	return r
}

// exampleTest is the test of the chapter's examples.
func exampleTest() api.Test {
	t := api.Test{
		Id:     3,
		Run:    doubtful(furnaceOf(25, 22)),
		Rules:  strict(),
		Clock:  span(0, 30),
		End:    1500,
		Limits: [api.Criteria]int{100, 10, 6, 0, 180, 140},
		Notes: []api.Note{
			note(600, api.CritPoint, 150),
			note(900, api.CritPoint, 175),
			note(1000, api.CritCotton, 0),
			note(1200, api.CritPoint, 195),
			note(1260, api.CritCotton, 1),
			note(1500, api.CritBend, 60),
			note(1500, api.CritSpeed, 5),
			note(1500, api.CritGap, 4),
			note(1500, api.CritMean, 100),
		},
	}
	for i := range t.Notes {
		if t.Notes[i].Kind == api.CritPoint {
			t.Notes[i].Off = span(-10, 10)
		}
	}
	return t
}

// lasted is a test in which all held for as many minutes as the furnace has rows.
func lasted(r api.Run) api.Test {
	t := api.Test{Run: r, Rules: strict(), End: 60 * len(r.Rows)}
	for i := range uint8(api.Criteria) {
		t.Notes = append(t.Notes, note(t.End, i+1, 0))
	}
	return t
}

func copyTest(t api.Test) api.Test {
	t.Run.Curve = slices.Clone(t.Run.Curve)
	t.Run.Couples = slices.Clone(t.Run.Couples)
	t.Run.Rows = slices.Clone(t.Run.Rows)
	for i := range t.Run.Rows {
		t.Run.Rows[i].Degrees = slices.Clone(t.Run.Rows[i].Degrees)
	}
	t.Rules.Steps = slices.Clone(t.Rules.Steps)
	t.Notes = slices.Clone(t.Notes)
	return t
}

// with returns a copy of the example's test with a change.
func with(change func(t *api.Test)) api.Test {
	t := copyTest(exampleTest())
	change(&t)
	return t
}

func failsOf(t *testing.T, x api.Test, criterion uint8) api.Fail {
	t.Helper()
	f, e := class.Fails(x, criterion)
	if e != api.OK {
		t.Fatal("Fails", e, x)
	}
	return f
}

func firstOf(t *testing.T, x api.Test, letter uint8) api.Fail {
	t.Helper()
	f, e := class.First(x, letter)
	if e != api.OK {
		t.Fatal("First", e, x)
	}
	return f
}

func classOf(t *testing.T, x api.Test, letter uint8) api.Span {
	t.Helper()
	s, e := class.Class(x, letter)
	if e != api.OK {
		t.Fatal("Class", e, x)
	}
	return s
}

func stopsOf(t *testing.T, x api.Test, letter uint8) []uint8 {
	t.Helper()
	l, e := class.Stops(x, letter)
	if e != api.OK {
		t.Fatal("Stops", e, x)
	}
	return l
}

func between(g *rand.Rand, lo, hi int) int { return lo + g.Intn(hi-lo+1) }

func someSpan(g *rand.Rand, lo, hi int) api.Span {
	a, b := between(g, lo, hi), between(g, lo, hi)
	return span(min(a, b), max(a, b))
}

// someRun is a run that may leave its limits in some minutes.
func someRun(g *rand.Rand, rows int) api.Run {
	r := furnaceOf(rows)
	for range g.Intn(3) {
		r.Rows[g.Intn(rows)].Degrees[0] = between(g, 92, 108)
	}
	if g.Intn(3) == 0 {
		r.Couples[0].Error = someSpan(g, -4, 4)
	}
	if g.Intn(4) == 0 {
		r.Rows[g.Intn(rows)].Press = between(g, -100, 100)
		r.Gauge = someSpan(g, -10, 10)
	}
	return r
}

// someTest is a valid test whose criteria fail now and then: a note before its second shows a low value, a later one a high one.
func someTest(g *rand.Rand) api.Test {
	rows := between(g, 1, 60)
	t := api.Test{Run: someRun(g, rows), Rules: strict(), End: 60 * rows}
	t.Rules.Press = span(-60, 60)
	if g.Intn(2) == 0 {
		t.End = between(g, 1, t.End)
	}
	if g.Intn(2) == 0 {
		t.Clock = someSpan(g, -120, 120)
	}
	t.Notes = someNotes(g, &t, between(g, 0, 40))
	return t
}

// someNotes are valid notes of a test, in order; its limits are set.
func someNotes(g *rand.Rand, t *api.Test, count int) []api.Note {
	var fails [api.Criteria]int
	for i := range fails {
		t.Limits[i] = between(g, 40, 60)
		fails[i] = between(g, t.End/2, 2*t.End)
		if g.Intn(2) == 0 {
			fails[i] = 2 * t.End
		}
	}
	var notes []api.Note
	for range count {
		n := api.Note{At: between(g, 0, t.End), Kind: uint8(between(g, 1, api.Criteria))}
		if g.Intn(3) == 0 {
			n.At = t.End
		}
		if g.Intn(2) == 0 {
			n.Off = someSpan(g, -5, 5)
		}
		truth := between(g, 10, t.Limits[n.Kind-1])
		if n.At >= fails[n.Kind-1] {
			truth = t.Limits[n.Kind-1] + between(g, 1, 9)
		}
		n.Value = truth + between(g, n.Off.Lo, n.Off.Hi)
		notes = append(notes, n)
	}
	slices.SortStableFunc(notes, func(a, b api.Note) int { return a.At - b.At })
	return notes
}
