package class_test

import (
	"slices"
	"strings"
	"testing"

	"cottonpad/api"
	"cottonpad/class"
	"cottonpad/furnace"
)

// The chapter's examples.
func TestExamples(t *testing.T) {
	x := exampleTest()
	if n, e := furnace.Counts(x.Run, x.Rules); n != 21 || e != api.OK {
		t.Fatal(n, e)
	}
	for _, y := range []struct {
		criterion uint8
		want      api.Fail
	}{
		{api.CritPoint, fail(0, 571, 1200)},
		{api.CritCotton, fail(0, 971, 1260)},
		{api.CritGap, fail(2, 0, 0)},
	} {
		if f := failsOf(t, x, y.criterion); f != y.want {
			t.Error(y.criterion, f)
		}
	}
	bare := with(func(t *api.Test) { t.Notes = slices.Delete(t.Notes, 7, 8) })
	if f := failsOf(t, bare, api.CritGap); f != fail(1, -30, 1500) {
		t.Error(f)
	}
	for _, y := range []struct {
		letter uint8
		first  api.Fail
		class  api.Span
		stops  []uint8
	}{
		{api.LetterR, fail(2, 0, 0), span(20, 20), []uint8{7, 8}},
		{api.LetterE, fail(0, 971, 1260), span(15, 20), []uint8{4}},
		{api.LetterI, fail(0, 571, 1200), span(5, 15), []uint8{5}},
	} {
		if f := firstOf(t, x, y.letter); f != y.first {
			t.Error(y.letter, f)
		}
		if s := classOf(t, x, y.letter); s != y.class {
			t.Error(y.letter, s)
		}
		if l := stopsOf(t, x, y.letter); !slices.Equal(l, y.stops) {
			t.Error(y.letter, l)
		}
	}
}

// bare is a test without notes, and with limits of 50.
func bare(end int, clock api.Span, notes ...api.Note) api.Test {
	return api.Test{
		Run: furnaceOf(60), Rules: strict(), Clock: clock, End: end,
		Limits: [api.Criteria]int{50, 50, 50, 50, 50, 50}, Notes: notes,
	}
}

func off(n api.Note, lo, hi int) api.Note {
	n.Off = span(lo, hi)
	return n
}

// P2.2: what notes show of a criterion, at the limit and beside it.
func TestFails(t *testing.T) {
	for i, x := range []struct {
		test api.Test
		want api.Fail
	}{
		// No note: from the first second, 0, to the end.
		{bare(1000, span(0, 0)), fail(1, 0, 1000)},
		{bare(1000, span(-7, -3)), fail(1, 3, 1007)},
		{bare(1000, span(-7, 9)), fail(1, -9, 1007)},
		// The limit itself is kept; one more is not.
		{bare(1000, span(0, 0), note(400, 3, 50)), fail(1, 401, 1000)},
		{bare(1000, span(0, 0), note(400, 3, 51)), fail(0, 0, 400)},
		{bare(1000, span(0, 0), off(note(400, 3, 40), -10, 10)), fail(1, 401, 1000)},
		{bare(1000, span(0, 0), off(note(400, 3, 41), -10, 10)), fail(1, 0, 1000)},
		{bare(1000, span(0, 0), off(note(400, 3, 60), -10, 10)), fail(1, 0, 1000)},
		{bare(1000, span(0, 0), off(note(400, 3, 61), -10, 10)), fail(0, 0, 400)},
		{bare(1000, span(0, 0), off(note(400, 3, 52), 2, 3)), fail(1, 401, 1000)},
		{bare(1000, span(0, 0), off(note(400, 3, 53), 2, 3)), fail(1, 0, 1000)},
		{bare(1000, span(0, 0), off(note(400, 3, 54), 2, 3)), fail(0, 0, 400)},
		{bare(1000, span(0, 0), off(note(400, 3, 47), -3, -2)), fail(1, 401, 1000)},
		{bare(1000, span(0, 0), off(note(400, 3, 49), -3, -2)), fail(0, 0, 400)},
		// What reads too much may be below 0; a limit of 0 is kept by 0.
		{with(func(t *api.Test) { t.Clock, t.Notes = span(0, 0), []api.Note{off(note(9, 4, 0), 200, 200)} }), fail(1, 10, 1500)},
		{with(func(t *api.Test) { t.Clock, t.Notes = span(0, 0), []api.Note{off(note(9, 4, 0), 0, 200)} }), fail(1, 10, 1500)},
		{with(func(t *api.Test) { t.Clock, t.Notes = span(0, 0), []api.Note{off(note(9, 4, 0), -1, 200)} }), fail(1, 0, 1500)},
		{with(func(t *api.Test) { t.Clock, t.Notes = span(0, 0), []api.Note{off(note(9, 4, 0), -1, -1)} }), fail(0, 0, 9)},
		// A failure in 0, and one that was held in 0.
		{bare(1000, span(0, 0), note(0, 3, 51)), fail(0, 0, 0)},
		{bare(1000, span(-4, 5), note(0, 3, 51)), fail(0, -5, 4)},
		{bare(1000, span(0, 0), note(0, 3, 50)), fail(1, 1, 1000)},
		// The last one that held, the first one that failed.
		{bare(1000, span(0, 0), note(100, 3, 1), note(200, 3, 50), note(300, 3, 51), note(400, 3, 99)), fail(0, 201, 300)},
		{bare(1000, span(10, 20), note(100, 3, 1), note(200, 3, 50), note(300, 3, 51), note(400, 3, 99)), fail(0, 181, 290)},
		{bare(1000, span(0, 0), note(299, 3, 1), note(300, 3, 51)), fail(0, 300, 300)},
		// At the end.
		{bare(1000, span(5, 6), note(1000, 3, 50)), fail(2, 0, 0)},
		{bare(1000, span(5, 6), note(999, 3, 50)), fail(1, 994, 995)},
		{bare(1000, span(5, 6), note(999, 3, 50), note(1000, 3, 51)), fail(0, 994, 995)},
		{bare(1000, span(5, 6), note(1000, 3, 51)), fail(0, -6, 995)},
		{bare(1, span(0, 0), note(1, 3, 50)), fail(2, 0, 0)},
		// Notes of others show nothing of it.
		{bare(1000, span(0, 0), note(100, 2, 50), note(200, 4, 51)), fail(1, 0, 1000)},
	} {
		criterion := uint8(api.CritGap)
		if x.test.Id == 3 {
			criterion = api.CritCotton
		}
		if f := failsOf(t, x.test, criterion); f != x.want {
			t.Error(i, f, x.want)
		}
	}
}

// P2.2: each criterion has its own notes, and its own limit.
func TestEachCriterion(t *testing.T) {
	x := bare(1000, span(0, 0))
	for i := range x.Limits {
		x.Limits[i] = 10 * (i + 1)
		x.Notes = append(x.Notes, note(100*(i+1), uint8(i+1), 10*(i+1)), note(100*(i+1)+50, uint8(i+1), 10*(i+1)+1))
	}
	for i := range x.Limits {
		if f := failsOf(t, x, uint8(i+1)); f != fail(0, 100*(i+1)+1, 100*(i+1)+50) {
			t.Error(i, f)
		}
	}
}

// P2.2: the first one of the criteria of a letter.
func TestFirst(t *testing.T) {
	held := func(kind uint8) api.Note { return note(1000, kind, 0) }
	for i, x := range []struct {
		notes   []api.Note
		r, e, i api.Fail
	}{
		{nil, fail(1, 0, 1000), fail(1, 0, 1000), fail(1, 0, 1000)},
		{[]api.Note{held(1), held(2)}, fail(2, 0, 0), fail(1, 0, 1000), fail(1, 0, 1000)},
		{[]api.Note{held(1), held(2), held(3), held(4)}, fail(2, 0, 0), fail(2, 0, 0), fail(1, 0, 1000)},
		{[]api.Note{held(1), held(2), held(3), held(4), held(5), held(6)}, fail(2, 0, 0), fail(2, 0, 0), fail(2, 0, 0)},
		// One that failed for sure is the latest that there may be: others may hold.
		{[]api.Note{note(300, 1, 99), held(2), held(3), held(4), held(5), held(6)}, fail(0, 0, 300), fail(0, 0, 300), fail(0, 0, 300)},
		{[]api.Note{note(300, 2, 99)}, fail(0, 0, 300), fail(0, 0, 300), fail(0, 0, 300)},
		{[]api.Note{note(200, 1, 0), note(300, 2, 0), note(400, 2, 99), held(3), held(4)}, fail(0, 201, 400), fail(0, 201, 400), fail(0, 0, 400)},
		// Two that failed: the least of both, at both ends.
		{[]api.Note{note(100, 1, 0), note(200, 2, 0), note(300, 2, 99), note(400, 1, 99), held(3), held(4), held(5), held(6)}, fail(0, 101, 300), fail(0, 101, 300), fail(0, 101, 300)},
		{[]api.Note{note(100, 4, 0), note(200, 3, 0), note(300, 3, 99), note(400, 4, 99), held(1), held(2), held(5), held(6)}, fail(2, 0, 0), fail(0, 101, 300), fail(0, 101, 300)},
		{[]api.Note{note(100, 6, 0), note(200, 5, 0), note(300, 5, 99), note(400, 6, 99), held(1), held(2), held(3), held(4)}, fail(2, 0, 0), fail(2, 0, 0), fail(0, 101, 300)},
		// Two that need not fail.
		{[]api.Note{note(100, 1, 0), note(200, 2, 0), held(3), held(4), held(5), held(6)}, fail(1, 101, 1000), fail(1, 101, 1000), fail(1, 101, 1000)},
		{[]api.Note{note(200, 1, 0), note(200, 2, 0), note(300, 3, 0), note(400, 4, 0), note(500, 5, 0), note(600, 6, 0)}, fail(1, 201, 1000), fail(1, 201, 1000), fail(1, 201, 1000)},
		{[]api.Note{note(900, 6, 99), held(1)}, fail(1, 0, 1000), fail(1, 0, 1000), fail(0, 0, 900)},
	} {
		notes := slices.Clone(x.notes)
		slices.SortStableFunc(notes, func(a, b api.Note) int { return a.At - b.At })
		for _, clock := range []api.Span{span(0, 0), span(-20, 30), span(5, 7)} {
			for letter, want := range []api.Fail{x.r, x.e, x.i} {
				if want.Held != api.KnownYes {
					want.At = span(want.At.Lo-clock.Hi, want.At.Hi-clock.Lo)
				}
				if f := firstOf(t, bare(1000, clock, notes...), uint8(letter+1)); f != want {
					t.Error(i, clock, letter+1, f, want)
				}
			}
		}
	}
}

// step is a test beside a class, its class, and what stops it (if it is asked for).
type step struct {
	name  string
	test  api.Test
	class api.Span
	stops []uint8
}

// endingAt returns a test in which all held until it ended.
func endingAt(end int, clock api.Span) api.Test {
	x := lasted(furnaceOf(60))
	x.End, x.Clock = end, clock
	for i := range x.Notes {
		x.Notes[i].At = end
	}
	return x
}

// gapAfter returns a test whose gap may fail from a second on.
func gapAfter(held int) api.Test {
	x := lasted(furnaceOf(60))
	x.Notes = append([]api.Note{note(held, api.CritGap, 0)}, without(x.Notes, api.CritGap)...)
	return x
}

// gapIn returns a test whose gap fails in a second.
func gapIn(second int, clock api.Span) api.Test {
	x := gapAfter(second - 1)
	x.Clock = clock
	x.Notes = slices.Insert(x.Notes, 1, note(second, api.CritGap, 1))
	return x
}

// thenHot makes the furnace of a test too hot in a minute, by whatever its couple errs.
func thenHot(x api.Test, minute int) api.Test {
	x.Run.Rows[minute-1].Degrees[0] = 150
	return x
}

func stepsTo(class, below int) []step {
	second := 60 * class
	return []step{
		{"end", endingAt(second, span(0, 0)), span(class, class), nil},
		{"end too early", endingAt(second-1, span(0, 0)), span(below, below), []uint8{7}},
		{"end, clock fast", endingAt(second, span(0, 1)), span(below, class), []uint8{7}},
		{"end, clock too fast", endingAt(second, span(1, 1)), span(below, below), []uint8{7}},
		{"end, clock slow", endingAt(second-1, span(-1, 0)), span(below, class), []uint8{7}},
		{"end, clock slow for sure", endingAt(second-1, span(-1, -1)), span(class, class), nil},
		{"rows", lasted(furnaceOf(class)), span(class, class), nil},
		{"rows too few", lasted(furnaceOf(class - 1)), span(below, below), []uint8{7, 8}},
		{"hot", lasted(furnaceOf(60, class)), span(below, below), []uint8{8}},
		{"maybe hot", lasted(doubtful(furnaceOf(60, class))), span(below, 60), []uint8{8}},
		{"maybe hot, then hot", thenHot(lasted(doubtful(furnaceOf(60, below+1))), class), span(below, below), []uint8{8}},
		{"gap from this second on", gapAfter(second - 1), span(below, 60), []uint8{3}},
		{"gap in this second", gapIn(second, span(0, 0)), span(below, below), []uint8{3}},
		{"gap in this second, clock slow", gapIn(second, span(-1, 0)), span(below, class), []uint8{3}},
		{"gap in this second, clock slow for sure", gapIn(second, span(-1, -1)), span(class, class), nil},
	}
}

// stepsPast are those that need a second, or a minute, after that of the class.
func stepsPast(class, below int) []step {
	second := 60 * class
	return []step{
		{"hot later", lasted(furnaceOf(60, class+1)), span(class, class), []uint8{8}},
		{"maybe hot at first, hot later", thenHot(lasted(doubtful(furnaceOf(60, 1))), class+1), span(0, class), []uint8{8}},
		{"gap from the next second on", gapAfter(second), span(class, 60), []uint8{3}},
		{"gap in the next second", gapIn(second+1, span(0, 0)), span(class, class), []uint8{3}},
		{"gap in the next second, clock fast", gapIn(second+1, span(0, 1)), span(below, class), []uint8{3}},
		{"gap in the next second, clock too fast", gapIn(second+1, span(1, 1)), span(below, below), []uint8{3}},
	}
}

// P2.3 and P2.4: each class is reached at its second, and in its minute, by all that it needs.
func TestClasses(t *testing.T) {
	all := []int{0, 5, 10, 15, 20, 30, 45, 60}
	for i := 1; i < len(all); i++ {
		steps := stepsTo(all[i], all[i-1])
		if all[i] < 60 {
			steps = append(steps, stepsPast(all[i], all[i-1])...)
		}
		for _, x := range steps {
			if s := classOf(t, x.test, api.LetterI); s != x.class {
				t.Error(all[i], x.name, s, x.class)
			}
			if l := stopsOf(t, x.test, api.LetterI); x.stops != nil && !slices.Equal(l, x.stops) {
				t.Error(all[i], x.name, l, x.stops)
			}
			if s := classOf(t, x.test, api.LetterR); strings.HasPrefix(x.name, "gap") && s.Lo < all[i] && x.test.Clock.Hi <= 0 {
				t.Error(all[i], x.name, s, "of R")
			}
		}
	}
}

func without(notes []api.Note, kind uint8) []api.Note {
	return slices.DeleteFunc(slices.Clone(notes), func(n api.Note) bool { return n.Kind == kind })
}

// P2.4: all that stops a test, in order; nothing stops one that has the last class.
func TestStops(t *testing.T) {
	whole := lasted(furnaceOf(60))
	for letter := uint8(1); letter <= 3; letter++ {
		if l := stopsOf(t, whole, letter); len(l) != 0 {
			t.Error(letter, l)
		}
	}
	short := bare(299, span(0, 0))
	short.Run = furnaceOf(5, 5)
	for i, want := range [][]uint8{{1, 2, 7, 8}, {1, 2, 3, 4, 7, 8}, {1, 2, 3, 4, 5, 6, 7, 8}} {
		if l := stopsOf(t, short, uint8(i+1)); !slices.Equal(l, want) {
			t.Error(i, l)
		}
	}
	// Each criterion alone.
	for i := range uint8(api.Criteria) {
		x := copyTest(whole)
		x.Notes = append([]api.Note{note(1300, i+1, 1)}, without(x.Notes, i+1)...)
		if l := stopsOf(t, x, api.LetterI); !slices.Equal(l, []uint8{i + 1}) {
			t.Error(i+1, l)
		}
		if s := classOf(t, x, api.LetterI); s != span(0, 20) {
			t.Error(i+1, s)
		}
	}
	// What comes only after the next class stops nothing: 900 is 15 minutes, and 1,200 are 20.
	x := copyTest(whole)
	x.Notes = append([]api.Note{note(1000, 6, 0), note(1200, 5, 0)}, without(without(x.Notes, 5), 6)...)
	if l := stopsOf(t, x, api.LetterI); !slices.Equal(l, []uint8{6}) {
		t.Error(l)
	}
	x.Notes[0].At = 1199
	if l := stopsOf(t, x, api.LetterI); !slices.Equal(l, []uint8{6}) {
		t.Error(l)
	}
	x.Notes[0].At = 1200
	if l := stopsOf(t, x, api.LetterI); !slices.Equal(l, []uint8{5, 6}) {
		t.Error(l)
	}
}

// P2.4: a clock that is slow lets a test end late enough for a class which its furnace has no row for.
func TestTooFewRows(t *testing.T) {
	x := lasted(furnaceOf(4))
	x.Clock = span(-120, -60)
	if l := stopsOf(t, x, api.LetterR); !slices.Equal(l, []uint8{api.StopFurnace}) {
		t.Error(l)
	}
	if s := classOf(t, x, api.LetterR); s != span(0, 0) {
		t.Error(s)
	}
	x.Clock.Hi = -59
	if l := stopsOf(t, x, api.LetterR); !slices.Equal(l, []uint8{api.StopEnd, api.StopFurnace}) {
		t.Error(l)
	}
}

// P2.3: a furnace that is blind, or that has no couple that works, keeps nothing.
func TestBlind(t *testing.T) {
	x := lasted(furnaceOf(60))
	x.Run.Couples[0].Breaks = 31
	for letter := uint8(1); letter <= 3; letter++ {
		if s := classOf(t, x, letter); s != span(30, 30) {
			t.Error(letter, s)
		}
		if l := stopsOf(t, x, letter); !slices.Equal(l, []uint8{api.StopFurnace}) {
			t.Error(letter, l)
		}
	}
	x.Run.Couples[0].Breaks = 1
	if s, e := class.Class(x, api.LetterR); s != span(0, 0) || e != api.OK {
		t.Error(s, e)
	}
}
