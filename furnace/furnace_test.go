package furnace_test

import (
	"slices"
	"testing"

	"cottonpad/api"
	"cottonpad/furnace"
)

// P1.1: a minute of a curve.
func TestAt(t *testing.T) {
	example := exampleRun().Curve
	thirds := []api.Point{{Minute: 0, Degree: 10}, {Minute: 3, Degree: 110}, {Minute: 5, Degree: 110}, {Minute: 6, Degree: 2000}, {Minute: 600, Degree: 2000}}
	for i, x := range []struct {
		curve        []api.Point
		minute, want int
		e            api.Errno
	}{
		{example, 0, 20, api.OK}, {example, 3, 320, api.OK}, {example, 5, 520, api.OK}, {example, 7, 584, api.OK}, {example, 10, 680, api.OK},
		{example, 11, 0, api.ErrArg}, {example, -1, 0, api.ErrArg},
		{thirds, 0, 10, api.OK}, {thirds, 1, 43, api.OK}, {thirds, 2, 76, api.OK}, {thirds, 3, 110, api.OK}, {thirds, 4, 110, api.OK}, {thirds, 5, 110, api.OK}, {thirds, 6, 2000, api.OK}, {thirds, 599, 2000, api.OK}, {thirds, 600, 2000, api.OK}, {thirds, 601, 0, api.ErrArg},
		{nil, 0, 0, api.ErrCurve}, {nil, -1, 0, api.ErrCurve},
	} {
		if n, e := furnace.At(x.curve, x.minute); n != x.want || e != x.e {
			t.Error(i, n, e)
		}
	}
}

// P1.2: the mean of a minute.
func TestMean(t *testing.T) {
	for i, want := range []api.Span{span(102900, 140700), span(178500, 182700), span(273000, 281400)} {
		if s, e := furnace.Mean(exampleRun(), i+1); s != want || e != api.OK {
			t.Error(i+1, s, e)
		}
	}
	for _, minute := range []int{-1, 0, 4, 10} {
		if s, e := furnace.Mean(exampleRun(), minute); s != span(0, 0) || e != api.ErrArg {
			t.Error(minute, s, e)
		}
	}
	// A negative error is added: the couple reads too little.
	cold := oneCouple(0, 50)
	cold.Couples[0].Error = span(-7, -2)
	if s, e := furnace.Mean(cold, 2); s != span(52*840, 57*840) || e != api.OK {
		t.Error(s, e)
	}
	cold.Couples[0].Error = span(1, 4)
	if s, e := furnace.Mean(cold, 1); s != span(-4*840, -840) || e != api.OK {
		t.Error(s, e)
	}
}

// P1.2: each number of couples, up to the greatest one.
func TestMeanOfManyCouples(t *testing.T) {
	for n := 1; n <= api.MaxCouples; n++ {
		r := api.Run{Curve: []api.Point{{}, {Minute: 1}}, Rows: []api.Row{row(0)}}
		total := 0
		for i := range n {
			r.Couples = append(r.Couples, api.Couple{Id: i, Error: span(0, 1)})
			r.Rows[0].Degrees = append(r.Rows[0].Degrees, 10*i+3)
			total += 10*i + 3
		}
		if s, e := furnace.Mean(r, 1); s != span((total-n)*840/n, total*840/n) || e != api.OK {
			t.Error(n, s, e)
		}
	}
}

// Terms: what a couple may show by its lag, and until when it works.
func TestLag(t *testing.T) {
	reads := []int{50, 10, 90, 30, 70}
	for i, x := range []struct {
		lag          api.Span
		breaks       int
		minute       int
		least, great int
	}{
		{span(0, 0), 0, 1, 50, 50}, {span(1, 1), 0, 1, 10, 10}, {span(0, 1), 0, 1, 10, 50}, {span(0, 2), 0, 1, 10, 90}, {span(2, 3), 0, 1, 30, 90}, {span(3, 3), 0, 1, 30, 30},
		// Behind the last row the last row is read.
		{span(0, 3), 0, 5, 70, 70}, {span(2, 3), 0, 4, 70, 70}, {span(1, 3), 0, 3, 30, 70},
		// Behind the last row in which it works that one is read.
		{span(0, 3), 4, 3, 90, 90}, {span(1, 3), 4, 2, 90, 90}, {span(2, 3), 3, 1, 10, 10}, {span(0, 3), 2, 1, 50, 50}, {span(0, 3), 5, 3, 30, 90},
		// It breaks after the last row.
		{span(3, 3), 6, 5, 70, 70}, {span(3, 3), 600, 3, 70, 70},
	} {
		r := oneCouple(reads...)
		r.Couples[0].Lag, r.Couples[0].Breaks = x.lag, x.breaks
		if s, e := furnace.Mean(r, x.minute); s != span(840*x.least, 840*x.great) || e != api.OK {
			t.Error(i, s, e)
		}
	}
	r := oneCouple(reads...)
	r.Couples[0].Breaks = 3
	for minute, want := range []api.Errno{api.ErrArg, api.OK, api.OK, api.ErrArg, api.ErrArg, api.ErrArg, api.ErrArg} {
		if _, e := furnace.Mean(r, minute); e != want {
			t.Error(minute, e)
		}
	}
}

// P1.3 to P1.5: the chapter's examples.
func TestExamples(t *testing.T) {
	want := []api.Breach{breach(1, api.BreachSingle, 4, api.KnownOpen), breach(2, api.BreachArea, -1, api.KnownOpen), breach(3, api.BreachPress, -1, api.KnownYes)}
	if l, e := furnace.Left(exampleRun(), exampleRules()); !slices.Equal(l, want) || e != api.OK {
		t.Error(l, e)
	}
	if k, m, e := furnace.Kept(exampleRun(), exampleRules(), 2); k != api.KnownOpen || m != 1 || e != api.OK {
		t.Error(k, m, e)
	}
	if k, m, e := furnace.Kept(exampleRun(), exampleRules(), 3); k != api.KnownNo || m != 3 || e != api.OK {
		t.Error(k, m, e)
	}
	if n, e := furnace.Counts(exampleRun(), exampleRules()); n != 0 || e != api.OK {
		t.Error(n, e)
	}
}

func left(t *testing.T, r api.Run, u api.Rules) []api.Breach {
	t.Helper()
	l, e := furnace.Left(r, u)
	if e != api.OK {
		t.Fatal(e)
	}
	return l
}

// P1.3: each limit just at its edge, and just beyond it.
func TestSingleEdges(t *testing.T) {
	for _, x := range []struct {
		degree int
		err    api.Span
		known  uint8
	}{
		{100, span(0, 0), 0}, {110, span(0, 0), 0}, {90, span(0, 0), 0}, {111, span(0, 0), 2}, {89, span(0, 0), 2},
		{110, span(-1, 0), 1}, {90, span(0, 1), 1}, {111, span(0, 1), 1}, {89, span(-1, 0), 1}, {112, span(0, 1), 2}, {88, span(-1, 0), 2}, {100, span(-11, 11), 1}, {100, span(-10, 10), 0},
	} {
		u := loose()
		u.Single = 10
		r := oneCouple(x.degree)
		r.Couples[0].Error = x.err
		var want []api.Breach
		if x.known > 0 {
			want = []api.Breach{breach(1, api.BreachSingle, 7, x.known)}
		}
		if l := left(t, r, u); !slices.Equal(l, want) {
			t.Error(x, l)
		}
		u.SingleFrom = 2
		if l := left(t, r, u); len(l) != 0 {
			t.Error(x, l)
		}
	}
}

func TestPressEdges(t *testing.T) {
	for _, x := range []struct {
		press int
		gauge api.Span
		known uint8
	}{
		{-3, span(0, 0), 0}, {5, span(0, 0), 0}, {-4, span(0, 0), 2}, {6, span(0, 0), 2},
		{5, span(-1, 0), 1}, {5, span(0, 1), 0}, {6, span(0, 1), 1}, {7, span(0, 1), 2}, {-3, span(0, 1), 1}, {-3, span(-1, 0), 0}, {-4, span(-1, 0), 1}, {-5, span(-1, 0), 2}, {0, span(-20, 20), 1},
	} {
		u := loose()
		u.Press = span(-3, 5)
		r := oneCouple(100)
		r.Rows[0].Press, r.Gauge = x.press, x.gauge
		var want []api.Breach
		if x.known > 0 {
			want = []api.Breach{breach(1, api.BreachPress, -1, x.known)}
		}
		if l := left(t, r, u); !slices.Equal(l, want) {
			t.Error(x, l)
		}
		u.PressFrom = 2
		if l := left(t, r, u); len(l) != 0 {
			t.Error(x, l)
		}
	}
}

// area returns what is known of the area in each minute.
func area(t *testing.T, r api.Run, steps ...api.Step) []uint8 {
	t.Helper()
	u := loose()
	u.Steps = steps
	known := make([]uint8, len(r.Rows))
	for _, b := range left(t, r, u) {
		if b.Kind == api.BreachArea {
			if b.Couple != -1 || b.Known == api.KnownNo {
				t.Error(b)
			}
			known[b.Minute-1] = b.Known
		}
	}
	return known
}

func TestAreaEdges(t *testing.T) {
	wide := oneCouple(100, 200, 300)
	wide.Couples[0].Error = span(-10, 20)
	broken := oneCouple(110, 200, 300, 400)
	broken.Couples[0].Breaks = 2
	for i, x := range []struct {
		r     api.Run
		steps []api.Step
		want  []uint8
	}{
		{oneCouple(110, 200), nil, []uint8{0, 0}},
		// A tenth of 100, and 10 of 300.
		{oneCouple(110, 200), []api.Step{{From: 1, Part: 100}}, []uint8{0, 0}},
		{oneCouple(111, 200), []api.Step{{From: 1, Part: 100}}, []uint8{2, 0}},
		{oneCouple(90, 200), []api.Step{{From: 1, Part: 100}}, []uint8{0, 0}},
		{oneCouple(89, 200), []api.Step{{From: 1, Part: 100}}, []uint8{2, 0}},
		{oneCouple(110, 200), []api.Step{{From: 1, Part: 0}}, []uint8{2, 2}},
		{oneCouple(110, 190), []api.Step{{From: 1, Part: 0}}, []uint8{2, 0}},
		{oneCouple(0, 0), []api.Step{{From: 1, Part: 1000}}, []uint8{0, 0}},
		{oneCouple(200, 401), []api.Step{{From: 1, Part: 1000}}, []uint8{0, 2}},
		// The last step that has begun counts; none counts before the first.
		{oneCouple(110, 200, 300), []api.Step{{From: 2, Part: 33}, {From: 3, Part: 16}}, []uint8{0, 2, 2}},
		{oneCouple(110, 200, 300), []api.Step{{From: 2, Part: 34}, {From: 3, Part: 17}}, []uint8{0, 0, 0}},
		{oneCouple(110, 200, 300), []api.Step{{From: 2, Part: 33}, {From: 3, Part: 500}}, []uint8{0, 2, 0}},
		{oneCouple(110, 200, 300), []api.Step{{From: 1, Part: 500}, {From: 2, Part: 0}, {From: 600, Part: 1}}, []uint8{0, 2, 2}},
		// From 80 to 110; from 260 to 320; from 540 to 630.
		{wide, []api.Step{{From: 1, Part: 200}}, []uint8{0, 0, 0}},
		{wide, []api.Step{{From: 1, Part: 199}}, []uint8{1, 0, 0}},
		{wide, []api.Step{{From: 1, Part: 100}}, []uint8{1, 1, 0}},
		{wide, []api.Step{{From: 1, Part: 0}}, []uint8{1, 1, 1}},
		// Blind minutes add nothing to either sum, and the sums of before still count.
		{broken, []api.Step{{From: 1, Part: 99}}, []uint8{2, 2, 2, 2}},
		{broken, []api.Step{{From: 1, Part: 100}}, []uint8{0, 0, 0, 0}},
		{broken, []api.Step{{From: 3, Part: 99}}, []uint8{0, 0, 2, 2}},
	} {
		if known := area(t, x.r, x.steps...); !slices.Equal(known, x.want) {
			t.Error(i, known)
		}
	}
	// Of nothing at all, no part is off.
	never := oneCouple(500, 500)
	never.Couples[0].Breaks = 1
	if known := area(t, never, api.Step{From: 1}); !slices.Equal(known, []uint8{0, 0}) {
		t.Error(known)
	}
}

// P1.3: the sum of the curve is that of the minutes alone in which some couple works, and a mean is one of those that work.
func TestAreaOfSomeCouples(t *testing.T) {
	r := oneCouple(110, 200, 300)
	r.Couples = append(r.Couples, api.Couple{Id: 9, Breaks: 2})
	for i := range r.Rows {
		r.Rows[i].Degrees = append(r.Rows[i].Degrees, 90)
	}
	if known := area(t, r, api.Step{From: 1}); !slices.Equal(known, []uint8{0, 0, 0}) {
		t.Error(known)
	}
	r.Couples[0].Breaks = 3
	if known := area(t, r, api.Step{From: 1}); !slices.Equal(known, []uint8{0, 0, 0}) {
		t.Error(known)
	}
}

func TestBlind(t *testing.T) {
	r := oneCouple(100, 200, 300, 400)
	r.Couples = append(r.Couples, api.Couple{Id: 9, Breaks: 4})
	r.Couples[0].Breaks = 3
	for i := range r.Rows {
		r.Rows[i].Degrees = append(r.Rows[i].Degrees, 5)
	}
	if l := left(t, r, loose()); !slices.Equal(l, []api.Breach{breach(4, api.BreachBlind, -1, api.KnownYes)}) {
		t.Error(l)
	}
	// Without a couple none leaves its limit; the pressure still may.
	u := loose()
	u.Single, u.SingleFrom, u.Press = 0, 4, span(1, 1)
	u.PressFrom = 4
	if l := left(t, r, u); !slices.Equal(l, []api.Breach{breach(4, api.BreachBlind, -1, api.KnownYes), breach(4, api.BreachPress, -1, api.KnownYes)}) {
		t.Error(l)
	}
}

// P1.3: by minutes, by kinds, by Ids.
func TestOrder(t *testing.T) {
	r := oneCouple(0, 0)
	r.Couples = []api.Couple{{Id: 2}, {Id: 10, Error: span(-50, 50)}, {Id: 300}}
	r.Rows = []api.Row{row(9, 0, 50, 100), row(9, 0, 0, 0)}
	u := api.Rules{Steps: []api.Step{{From: 1, Part: 10}}, Single: 10, SingleFrom: 1, Press: span(0, 0), PressFrom: 1}
	want := []api.Breach{
		breach(1, api.BreachArea, -1, 2), breach(1, api.BreachSingle, 2, 2), breach(1, api.BreachSingle, 10, 1), breach(1, api.BreachPress, -1, 2),
		breach(2, api.BreachArea, -1, 2), breach(2, api.BreachSingle, 2, 2), breach(2, api.BreachSingle, 10, 2), breach(2, api.BreachSingle, 300, 2), breach(2, api.BreachPress, -1, 2),
	}
	if l := left(t, r, u); !slices.Equal(l, want) {
		t.Error(l)
	}
}

// P1.4 and P1.5: until which minute limits were kept.
func TestKeptAndCounts(t *testing.T) {
	u := loose()
	u.Press = span(0, 10)
	run := func(press ...int) api.Run {
		r := oneCouple()
		r.Gauge = span(0, 1)
		for _, p := range press {
			r.Rows = append(r.Rows, row(p, 100))
		}
		return r
	}
	// 5 keeps the limit, 11 may leave it, 20 leaves it.
	for i, x := range []struct {
		press  []int
		counts int
		known  []uint8
		minute []int
	}{
		{[]int{5, 5}, 2, []uint8{2, 2, 2}, []int{0, 0, 0}},
		{[]int{5, 11, 5}, 1, []uint8{2, 2, 1, 1}, []int{0, 0, 2, 2}},
		{[]int{5, 11, 11, 20, 11, 20}, 1, []uint8{2, 2, 1, 1, 0, 0, 0}, []int{0, 0, 2, 2, 4, 4, 4}},
		{[]int{20, 11}, 0, []uint8{2, 0, 0}, []int{0, 1, 1}},
		{[]int{5, 5, 5, 20}, 3, []uint8{2, 2, 2, 2, 0}, []int{0, 0, 0, 0, 4}},
		{[]int{5, 5, 5, 11}, 3, []uint8{2, 2, 2, 2, 1}, []int{0, 0, 0, 0, 4}},
	} {
		r := run(x.press...)
		if n, e := furnace.Counts(r, u); n != x.counts || e != api.OK {
			t.Error(i, n, e)
		}
		for until := range x.known {
			if k, m, e := furnace.Kept(r, u, until); k != x.known[until] || m != x.minute[until] || e != api.OK {
				t.Error(i, until, k, m, e)
			}
		}
		for _, until := range []int{-1, len(x.press) + 1} {
			if k, m, e := furnace.Kept(r, u, until); k != 0 || m != 0 || e != api.ErrArg {
				t.Error(i, until, k, m, e)
			}
		}
	}
}
