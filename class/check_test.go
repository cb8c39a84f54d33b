package class_test

import (
	"math"
	"slices"
	"testing"

	"cottonpad/api"
	"cottonpad/class"
)

// bound is a number of a test, and the span of its valid values (all others being as they are in boundTest).
type bound struct {
	name   string
	field  func(t *api.Test) *int
	lo, hi int
}

func boundTest() api.Test {
	return api.Test{
		Id: 4, Run: furnaceOf(20), Rules: strict(), Clock: span(-1, 1), End: 1000,
		Limits: [api.Criteria]int{1, 2, 3, 4, 5, 6},
		Notes: []api.Note{
			{At: 50, Kind: 2, Value: 7, Off: span(-1, 1)},
			{At: 60, Kind: 4, Value: 7, Off: span(-1, 1)},
			{At: 70, Kind: 5, Value: 7, Off: span(-1, 1)},
		},
	}
}

func bounds() []bound {
	return []bound{
		{"id", func(t *api.Test) *int { return &t.Id }, 0, 9999},
		{"clock lo", func(t *api.Test) *int { return &t.Clock.Lo }, -120, 1},
		{"clock hi", func(t *api.Test) *int { return &t.Clock.Hi }, -1, 120},
		{"end, not before the last note", func(t *api.Test) *int { return &t.End }, 70, 1200},
		{"limit 0", func(t *api.Test) *int { return &t.Limits[0] }, 0, 10000},
		{"limit 1", func(t *api.Test) *int { return &t.Limits[1] }, 0, 10000},
		{"limit 2", func(t *api.Test) *int { return &t.Limits[2] }, 0, 10000},
		{"limit 3", func(t *api.Test) *int { return &t.Limits[3] }, 0, 10000},
		{"limit 4", func(t *api.Test) *int { return &t.Limits[4] }, 0, 10000},
		{"limit 5", func(t *api.Test) *int { return &t.Limits[5] }, 0, 10000},
		{"at 0", func(t *api.Test) *int { return &t.Notes[0].At }, 0, 60},
		{"at 1", func(t *api.Test) *int { return &t.Notes[1].At }, 50, 70},
		{"at 2", func(t *api.Test) *int { return &t.Notes[2].At }, 60, 1000},
		{"value 0", func(t *api.Test) *int { return &t.Notes[0].Value }, 0, 10000},
		{"value 2", func(t *api.Test) *int { return &t.Notes[2].Value }, 0, 10000},
		{"off lo", func(t *api.Test) *int { return &t.Notes[1].Off.Lo }, -200, 1},
		{"off hi", func(t *api.Test) *int { return &t.Notes[1].Off.Hi }, -1, 200},
	}
}

// expect checks the error of all functions with a test, and that all else is zero.
func expect(t *testing.T, name any, x api.Test, want api.Errno) {
	t.Helper()
	if e := class.Check(x); e != want {
		t.Error(name, "Check", e, want)
	}
	for n := range 256 {
		// What is wrong with the test comes before the other argument.
		criterion, letter := want, want
		if want == api.OK && (n < 1 || n > 6) {
			criterion = api.ErrArg
		}
		if want == api.OK && (n < 1 || n > 3) {
			letter = api.ErrArg
		}
		if f, e := class.Fails(x, uint8(n)); e != criterion || e != api.OK && f != (api.Fail{}) {
			t.Error(name, "Fails", n, f, e)
		}
		if f, e := class.First(x, uint8(n)); e != letter || e != api.OK && f != (api.Fail{}) {
			t.Error(name, "First", n, f, e)
		}
		if s, e := class.Class(x, uint8(n)); e != letter || e != api.OK && s != (api.Span{}) {
			t.Error(name, "Class", n, s, e)
		}
		if l, e := class.Stops(x, uint8(n)); e != letter || e != api.OK && len(l) != 0 {
			t.Error(name, "Stops", n, l, e)
		}
	}
}

// P2.1, R5 and R6: each number at its bounds, beyond them, and far beyond them.
func TestBounds(t *testing.T) {
	for _, b := range bounds() {
		for _, n := range []int{b.lo, b.hi} {
			x := boundTest()
			*b.field(&x) = n
			expect(t, b.name, x, api.OK)
		}
		for _, n := range []int{b.lo - 1, b.hi + 1, math.MinInt, math.MaxInt, math.MinInt + 1, math.MaxInt32 + 1} {
			x := boundTest()
			*b.field(&x) = n
			expect(t, b.name, x, api.ErrTest)
		}
	}
}

func TestKinds(t *testing.T) {
	for n := range 256 {
		x, want := boundTest(), api.ErrTest
		x.Notes[1].Kind = uint8(n)
		if 1 <= n && n <= 6 {
			want = api.OK
		}
		if e := class.Check(x); e != want {
			t.Error(n, e)
		}
	}
}

func TestEnd(t *testing.T) {
	for _, x := range []struct {
		rows, end int
		e         api.Errno
	}{{1, 1, api.OK}, {1, 0, api.ErrTest}, {1, -1, api.ErrTest}, {1, 60, api.OK}, {1, 61, api.ErrTest}, {2, 61, api.OK}, {60, 3600, api.OK}, {60, 3601, api.ErrTest}} {
		y := bare(x.end, span(0, 0))
		y.Run = furnaceOf(x.rows)
		expect(t, x, y, x.e)
	}
}

// P2.1: how many notes there may be, and which errors come first.
func TestCheck(t *testing.T) {
	for i, x := range []struct {
		change func(t *api.Test)
		e      api.Errno
	}{
		{func(t *api.Test) {}, api.OK},
		{func(t *api.Test) { t.Notes = nil }, api.OK},
		{func(t *api.Test) { t.Notes = slices.Repeat(t.Notes[:1], api.MaxNotes) }, api.OK},
		{func(t *api.Test) { t.Notes = slices.Repeat(t.Notes[:1], api.MaxNotes+1) }, api.ErrTest},
		{func(t *api.Test) { slices.Reverse(t.Notes) }, api.ErrTest},
		{func(t *api.Test) { t.Run.Id = -1 }, api.ErrRun},
		{func(t *api.Test) { t.Run = api.Run{} }, api.ErrRun},
		{func(t *api.Test) { t.Rules.Single = -1 }, api.ErrRules},
		{func(t *api.Test) { t.Rules = api.Rules{} }, api.ErrRules},
		{func(t *api.Test) { *t = api.Test{} }, api.ErrRun},
		{func(t *api.Test) { t.Run.Rows, t.Rules.Single, t.Id = nil, -1, -1 }, api.ErrRun},
		{func(t *api.Test) { t.Rules.Single, t.Id = -1, -1 }, api.ErrRules},
		{func(t *api.Test) { t.Rules.Single = -1; twist(t) }, api.ErrRules},
		{func(t *api.Test) { t.Id = -1; twist(t) }, api.ErrTest},
		{func(t *api.Test) { t.Notes[8].At = 1501; twist(t) }, api.ErrTest},
		{func(t *api.Test) { twist(t) }, api.ErrTwist},
	} {
		expect(t, i, with(x.change), x.e)
	}
}

// twist adds a note that the gap has failed, before the one that it holds.
func twist(t *api.Test) { t.Notes = slices.Insert(t.Notes, 0, note(500, api.CritGap, 7)) }

// P2.1: notes that contradict each other.
func TestTwist(t *testing.T) {
	for i, x := range []struct {
		notes []api.Note
		e     api.Errno
	}{
		{[]api.Note{note(10, 3, 50), note(11, 3, 51)}, api.OK},
		{[]api.Note{note(10, 3, 51), note(11, 3, 50)}, api.ErrTwist},
		// In the same second, in both orders.
		{[]api.Note{note(10, 3, 50), note(10, 3, 51)}, api.ErrTwist},
		{[]api.Note{note(10, 3, 51), note(10, 3, 50)}, api.ErrTwist},
		// What is between them changes nothing; not the last one, nor the first.
		{[]api.Note{note(10, 3, 51), note(10, 3, 51), note(12, 4, 50), note(13, 3, 50), note(14, 3, 51)}, api.ErrTwist},
		{[]api.Note{note(1, 3, 50), note(10, 3, 51), note(13, 3, 50)}, api.ErrTwist},
		{[]api.Note{note(1, 3, 50), note(2, 3, 50), note(2, 4, 51), note(3, 3, 51), note(3, 3, 51), note(9, 4, 99)}, api.OK},
		// Of different criteria.
		{[]api.Note{note(10, 3, 51), note(11, 4, 50)}, api.OK},
		{[]api.Note{note(10, 3, 51), note(10, 4, 50)}, api.OK},
		// One that shows nothing contradicts nothing.
		{[]api.Note{note(10, 3, 51), off(note(11, 3, 50), -1, 0), off(note(12, 3, 51), 0, 1)}, api.OK},
		{[]api.Note{off(note(10, 3, 51), 0, 1), note(11, 3, 50)}, api.OK},
		{[]api.Note{note(10, 3, 51), off(note(11, 3, 49), -1, 0)}, api.ErrTwist},
		{[]api.Note{off(note(10, 3, 52), 0, 1), note(11, 3, 50)}, api.ErrTwist},
		// Of the first criterion, and of the last one.
		{[]api.Note{note(10, 1, 51), note(10, 1, 50)}, api.ErrTwist},
		{[]api.Note{note(10, 6, 51), note(10, 6, 50)}, api.ErrTwist},
		{[]api.Note{note(0, 6, 51), note(1000, 6, 50)}, api.ErrTwist},
	} {
		expect(t, i, bare(1000, span(-3, 5), x.notes...), x.e)
	}
}
