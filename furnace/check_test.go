package furnace_test

import (
	"math"
	"slices"
	"testing"

	"cottonpad/api"
	"cottonpad/furnace"
)

// bound is a number of a run or of rules, and the span of its valid values (all others being as they are in longRun and longRules).
type bound struct {
	name   string
	field  func(r *api.Run, u *api.Rules) *int
	lo, hi int
	e      api.Errno
}

// longRun is a run on which all its numbers may go to their bounds.
func longRun() api.Run {
	r := api.Run{
		Id:      5,
		Curve:   []api.Point{{Degree: 10}, {Minute: 40, Degree: 50}, {Minute: 80, Degree: 60}},
		Couples: []api.Couple{{Id: 3, Error: span(-1, 1), Lag: span(1, 2)}, {Id: 8}},
		Gauge:   span(-1, 1),
	}
	for range 5 {
		r.Rows = append(r.Rows, row(0, 1, 2))
	}
	return r
}

func longRules() api.Rules {
	return api.Rules{Steps: []api.Step{{From: 4, Part: 5}, {From: 9, Part: 6}}, Single: 7, SingleFrom: 8, Press: span(-1, 1), PressFrom: 9}
}

func bounds() []bound {
	return []bound{
		{"id", func(r *api.Run, u *api.Rules) *int { return &r.Id }, 0, 9999, api.ErrRun},
		{"minute 0", func(r *api.Run, u *api.Rules) *int { return &r.Curve[0].Minute }, 0, 0, api.ErrRun},
		{"minute 1", func(r *api.Run, u *api.Rules) *int { return &r.Curve[1].Minute }, 1, 79, api.ErrRun},
		{"minute 2, not before the last row", func(r *api.Run, u *api.Rules) *int { return &r.Curve[2].Minute }, 41, 600, api.ErrRun},
		{"degree 0", func(r *api.Run, u *api.Rules) *int { return &r.Curve[0].Degree }, 0, 50, api.ErrRun},
		{"degree 1", func(r *api.Run, u *api.Rules) *int { return &r.Curve[1].Degree }, 10, 60, api.ErrRun},
		{"degree 2", func(r *api.Run, u *api.Rules) *int { return &r.Curve[2].Degree }, 50, 2000, api.ErrRun},
		{"gauge lo", func(r *api.Run, u *api.Rules) *int { return &r.Gauge.Lo }, -20, 1, api.ErrRun},
		{"gauge hi", func(r *api.Run, u *api.Rules) *int { return &r.Gauge.Hi }, -1, 20, api.ErrRun},
		{"couple 0", func(r *api.Run, u *api.Rules) *int { return &r.Couples[0].Id }, 0, 7, api.ErrRun},
		{"couple 1", func(r *api.Run, u *api.Rules) *int { return &r.Couples[1].Id }, 4, 9999, api.ErrRun},
		{"error lo", func(r *api.Run, u *api.Rules) *int { return &r.Couples[0].Error.Lo }, -50, 1, api.ErrRun},
		{"error hi", func(r *api.Run, u *api.Rules) *int { return &r.Couples[0].Error.Hi }, -1, 50, api.ErrRun},
		{"lag lo", func(r *api.Run, u *api.Rules) *int { return &r.Couples[0].Lag.Lo }, 0, 2, api.ErrRun},
		{"lag hi", func(r *api.Run, u *api.Rules) *int { return &r.Couples[0].Lag.Hi }, 1, 3, api.ErrRun},
		{"breaks", func(r *api.Run, u *api.Rules) *int { return &r.Couples[1].Breaks }, 0, 600, api.ErrRun},
		{"read", func(r *api.Run, u *api.Rules) *int { return &r.Rows[4].Degrees[1] }, 0, 2000, api.ErrRun},
		{"read first", func(r *api.Run, u *api.Rules) *int { return &r.Rows[0].Degrees[0] }, 0, 2000, api.ErrRun},
		{"press", func(r *api.Run, u *api.Rules) *int { return &r.Rows[4].Press }, -100, 100, api.ErrRun},
		{"press first", func(r *api.Run, u *api.Rules) *int { return &r.Rows[0].Press }, -100, 100, api.ErrRun},
		{"from 0", func(r *api.Run, u *api.Rules) *int { return &u.Steps[0].From }, 1, 8, api.ErrRules},
		{"from 1", func(r *api.Run, u *api.Rules) *int { return &u.Steps[1].From }, 5, 600, api.ErrRules},
		{"part 0", func(r *api.Run, u *api.Rules) *int { return &u.Steps[0].Part }, 0, 1000, api.ErrRules},
		{"part 1", func(r *api.Run, u *api.Rules) *int { return &u.Steps[1].Part }, 0, 1000, api.ErrRules},
		{"single", func(r *api.Run, u *api.Rules) *int { return &u.Single }, 0, 2000, api.ErrRules},
		{"single from", func(r *api.Run, u *api.Rules) *int { return &u.SingleFrom }, 1, 600, api.ErrRules},
		{"press lo", func(r *api.Run, u *api.Rules) *int { return &u.Press.Lo }, -100, 1, api.ErrRules},
		{"press hi", func(r *api.Run, u *api.Rules) *int { return &u.Press.Hi }, -1, 100, api.ErrRules},
		{"press from", func(r *api.Run, u *api.Rules) *int { return &u.PressFrom }, 1, 600, api.ErrRules},
	}
}

// expect checks the error of all functions with a run and rules, and that all else is zero.
func expect(t *testing.T, name any, r api.Run, u api.Rules, want api.Errno) {
	t.Helper()
	if e := furnace.Check(r, u); e != want {
		t.Error(name, "Check", e)
	}
	if l, e := furnace.Left(r, u); e != want || e != api.OK && len(l) != 0 {
		t.Error(name, "Left", l, e)
	}
	if n, e := furnace.Counts(r, u); e != want || e != api.OK && n != 0 {
		t.Error(name, "Counts", n, e)
	}
	if k, m, e := furnace.Kept(r, u, 1); e != want || e != api.OK && (k != 0 || m != 0) {
		t.Error(name, "Kept", k, m, e)
	}
	kept, mean := want, want
	if want == api.OK {
		kept = api.ErrArg
	}
	if want != api.ErrRun {
		mean = api.ErrArg
	}
	// What is wrong with the run, or with the rules, comes before the other argument.
	for _, n := range []int{-1, math.MinInt, math.MaxInt, len(r.Rows) + 1} {
		if k, m, e := furnace.Kept(r, u, n); k != 0 || m != 0 || e != kept {
			t.Error(name, "Kept", n, k, m, e)
		}
		if s, e := furnace.Mean(r, n); s != (api.Span{}) || e != mean {
			t.Error(name, "Mean", n, s, e)
		}
	}
}

// P1.1, R5 and R6: each number at its bounds, beyond them, and far beyond them.
func TestBounds(t *testing.T) {
	for _, b := range bounds() {
		for _, n := range []int{b.lo, b.hi} {
			r, u := longRun(), longRules()
			*b.field(&r, &u) = n
			expect(t, b.name, r, u, api.OK)
		}
		for _, n := range []int{b.lo - 1, b.hi + 1, math.MinInt, math.MaxInt, math.MinInt + 1, math.MaxInt32 + 1} {
			r, u := longRun(), longRules()
			*b.field(&r, &u) = n
			expect(t, b.name, r, u, b.e)
		}
	}
}

// P1.1: how many there may be of each thing.
func TestHowMany(t *testing.T) {
	for i, x := range []struct {
		change func(r *api.Run, u *api.Rules)
		e      api.Errno
	}{
		{func(r *api.Run, u *api.Rules) {}, api.OK},
		{func(r *api.Run, u *api.Rules) { r.Couples = nil }, api.ErrRun},
		{func(r *api.Run, u *api.Rules) { r.Couples, r.Rows = nil, []api.Row{{}} }, api.ErrRun},
		{func(r *api.Run, u *api.Rules) { couples(r, api.MaxCouples) }, api.OK},
		{func(r *api.Run, u *api.Rules) { couples(r, api.MaxCouples+1) }, api.ErrRun},
		{func(r *api.Run, u *api.Rules) { r.Rows = nil }, api.ErrRun},
		{func(r *api.Run, u *api.Rules) { r.Rows = []api.Row{} }, api.ErrRun},
		{func(r *api.Run, u *api.Rules) { r.Rows = slices.Repeat(r.Rows, 12) }, api.OK},
		{func(r *api.Run, u *api.Rules) { r.Rows = slices.Repeat(r.Rows, 13)[:61] }, api.ErrRun},
		{func(r *api.Run, u *api.Rules) { r.Curve = []api.Point{{}, {Minute: 5}} }, api.OK},
		{func(r *api.Run, u *api.Rules) { r.Curve = []api.Point{{}, {Minute: 4}} }, api.ErrRun},
		{func(r *api.Run, u *api.Rules) { r.Rows[2].Degrees = []int{1} }, api.ErrRun},
		{func(r *api.Run, u *api.Rules) { r.Rows[2].Degrees = []int{1, 2, 3} }, api.ErrRun},
		{func(r *api.Run, u *api.Rules) { r.Rows[4].Degrees = nil }, api.ErrRun},
		{func(r *api.Run, u *api.Rules) { r.Couples = r.Couples[:1] }, api.ErrRun},
		{func(r *api.Run, u *api.Rules) { slices.Reverse(r.Couples) }, api.ErrRun},
		{func(r *api.Run, u *api.Rules) { u.Steps = nil }, api.OK},
		{func(r *api.Run, u *api.Rules) { u.Steps = steps(api.MaxSteps) }, api.OK},
		{func(r *api.Run, u *api.Rules) { u.Steps = steps(api.MaxSteps + 1) }, api.ErrRules},
		{func(r *api.Run, u *api.Rules) { slices.Reverse(u.Steps) }, api.ErrRules},
		{func(r *api.Run, u *api.Rules) { r.Id, u.Single = -1, -1 }, api.ErrRun},
		{func(r *api.Run, u *api.Rules) { r.Rows, u.Steps = nil, steps(9) }, api.ErrRun},
		{func(r *api.Run, u *api.Rules) { *r, *u = api.Run{}, api.Rules{} }, api.ErrRun},
		{func(r *api.Run, u *api.Rules) { *u = api.Rules{} }, api.ErrRules},
	} {
		r, u := longRun(), longRules()
		x.change(&r, &u)
		expect(t, i, r, u, x.e)
	}
}

func couples(r *api.Run, n int) {
	r.Couples = nil
	for i := range n {
		r.Couples = append(r.Couples, api.Couple{Id: i})
	}
	for i := range r.Rows {
		r.Rows[i].Degrees = make([]int, n)
	}
}

func steps(n int) []api.Step {
	var list []api.Step
	for i := range n {
		list = append(list, api.Step{From: i + 1})
	}
	return list
}

// P1.1: what is no curve is none for At, nor for a run.
func TestCurves(t *testing.T) {
	many := func(n int) []api.Point {
		var list []api.Point
		for i := range n {
			list = append(list, api.Point{Minute: i * 60, Degree: i})
		}
		return list
	}
	for i, x := range []struct {
		curve []api.Point
		e     api.Errno
	}{
		{nil, api.ErrCurve}, {[]api.Point{}, api.ErrCurve}, {many(1), api.ErrCurve}, {many(2), api.OK}, {many(10), api.OK}, {many(11), api.ErrCurve},
		{[]api.Point{{Minute: 1}, {Minute: 2}}, api.ErrCurve}, {[]api.Point{{Minute: -1}, {Minute: 2}}, api.ErrCurve},
		{[]api.Point{{}, {}}, api.ErrCurve}, {[]api.Point{{}, {Minute: 9}, {Minute: 9}}, api.ErrCurve}, {[]api.Point{{}, {Minute: 9}, {Minute: 8}}, api.ErrCurve},
		{[]api.Point{{}, {Minute: 600}}, api.OK}, {[]api.Point{{}, {Minute: 601}}, api.ErrCurve}, {[]api.Point{{}, {Minute: math.MaxInt}}, api.ErrCurve},
		{[]api.Point{{Degree: 2000}, {Minute: 9, Degree: 2000}}, api.OK}, {[]api.Point{{}, {Minute: 9, Degree: 2001}}, api.ErrCurve}, {[]api.Point{{Degree: -1}, {Minute: 9}}, api.ErrCurve},
		{[]api.Point{{Degree: 7}, {Minute: 9, Degree: 6}}, api.ErrCurve}, {[]api.Point{{Degree: 7}, {Minute: 9, Degree: 7}}, api.OK}, {[]api.Point{{Degree: math.MinInt}, {Minute: 9}}, api.ErrCurve},
	} {
		if _, e := furnace.At(x.curve, 0); e != x.e {
			t.Error(i, e)
		}
		for _, minute := range []int{-1, 601, math.MinInt, math.MaxInt} {
			want := x.e
			if want == api.OK {
				want = api.ErrArg
			}
			if n, e := furnace.At(x.curve, minute); n != 0 || e != want {
				t.Error(i, minute, n, e)
			}
		}
		r := longRun()
		r.Curve, r.Rows = x.curve, r.Rows[:1]
		want := api.OK
		if x.e != api.OK {
			want = api.ErrRun
		}
		expect(t, i, r, longRules(), want)
	}
}
