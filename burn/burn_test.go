package burn_test

import (
	"math"
	"slices"
	"testing"

	"cottonpad/api"
	"cottonpad/burn"
)

// P4.1: the chapter's examples of heat.
func TestExampleHeat(t *testing.T) {
	x := example()
	if e := burn.Check(x.h, x.r); e != api.OK {
		t.Fatal(e)
	}
	for second, want := range []api.Span{span(0, 2970000), span(1700000, 4950000), span(0, 4950000)} {
		if s := x.heat(t, second); s != want {
			t.Error(second, s)
		}
	}
	if s, e := burn.Heat(x.h, x.r, 3); s != (api.Span{}) || e != api.ErrArg {
		t.Error(s, e)
	}
}

// P4.1: what the chapter says of both lags.
func TestExampleMissing(t *testing.T) {
	for lag, list := range map[int][]api.Span{
		1: {span(0, 300), span(1000, 1500), span(2000, 2500)},
		2: {span(1000, 1500), span(2000, 2500), span(0, 500)},
	} {
		x := example()
		x.h.Lag, x.h.Flow, x.h.Joule = span(lag, lag), span(1, 1), span(1, 1)
		for second, want := range list {
			if s := x.heat(t, second); s != want {
				t.Error(lag, second, s)
			}
		}
	}
}

// The example 4 of the document: 209,000 less 208,000, times 17 and 100.
func TestDocumentExample(t *testing.T) {
	x := fire{h: api.Hood{Base: span(209000, 209000), Flow: span(100, 100), Joule: span(17, 17)}, r: []int{208000}}
	if a, b := x.heat(t, 0), x.sum(t, 0, 1); a != span(1700000, 1700000) || a != b {
		t.Error(a, b)
	}
}

// P4.2: the chapter's example of a sum, and those of other seconds.
func TestExampleSum(t *testing.T) {
	x := example()
	for _, y := range []struct {
		from, to int
		want     api.Span
	}{
		{0, 3, span(5100000, 8910000)},
		{0, 0, span(0, 0)}, {1, 1, span(0, 0)}, {3, 3, span(0, 0)},
		{0, 1, span(0, 2970000)}, {1, 2, span(1700000, 4950000)}, {2, 3, span(0, 4950000)},
		// With the lag 1 1,700,000 to 3,564,000, with the lag 2 5,100,000 to 7,920,000.
		{0, 2, span(1700000, 7920000)},
		// 5,100,000 to 7,920,000, and 3,400,000 to 5,940,000.
		{1, 3, span(3400000, 7920000)},
	} {
		if s := x.sum(t, y.from, y.to); s != y.want {
			t.Error(y, s)
		}
	}
}

// P4.3: the chapter's examples of levels, and those just at their edges.
func TestExampleFirst(t *testing.T) {
	x := example()
	for _, y := range []struct {
		level int
		first api.Span
		known uint8
	}{
		{3400000, span(1, 2), api.KnownYes},
		{4000000, span(1, 2), api.KnownOpen},
		{5000000, span(0, 0), api.KnownNo},
		{1, span(0, 1), api.KnownYes},
		{594000, span(0, 1), api.KnownYes},
		{594001, span(0, 1), api.KnownYes},
		{1700000, span(0, 1), api.KnownYes},
		{1700001, span(0, 2), api.KnownYes},
		{2970000, span(0, 2), api.KnownYes},
		{2970001, span(1, 2), api.KnownYes},
		{3400001, span(1, 2), api.KnownOpen},
		{4950000, span(1, 2), api.KnownOpen},
		{4950001, span(0, 0), api.KnownNo},
		{math.MaxInt, span(0, 0), api.KnownNo},
	} {
		if s, known := x.first(t, y.level); s != y.first || known != y.known {
			t.Error(y, s, known)
		}
	}
}

// P4.4: the chapter's examples of a lamp.
func TestExampleLamp(t *testing.T) {
	x := exampleGlow()
	for second, want := range []api.Span{span(900, 1000), span(850, 1000), span(850, 1000), span(800, 1000)} {
		if s := x.clean(t, second); s != want {
			t.Error("Clean", second, s)
		}
	}
	for second, want := range []api.Span{span(0, 100), span(295, 400), span(0, 150), span(500, 600)} {
		if s := x.dark(t, second); s != want {
			t.Error("Dark", second, s)
		}
	}
	for _, y := range []struct {
		from, to int
		want     api.Span
	}{
		{0, 4, span(795, 1250)}, {0, 0, span(0, 0)}, {4, 4, span(0, 0)}, {0, 1, span(0, 100)}, {3, 4, span(500, 600)}, {1, 3, span(295, 550)}, {1, 4, span(795, 1150)},
	} {
		if s := x.smoke(t, y.from, y.to); s != y.want {
			t.Error("Smoke", y, s)
		}
	}
}

// P4.1 to P4.3: without a second of heat there is no heat, and no level is reached.
func TestNoSecond(t *testing.T) {
	for _, readings := range []int{0, 1, 15, 29, 30} {
		for _, lo := range []int{0, 1, 30} {
			x := example()
			x.h.Lag, x.r = span(lo, 30), make([]int, readings)
			if s, e := burn.Heat(x.h, x.r, 0); s != (api.Span{}) || e != api.ErrArg {
				t.Error(s, e)
			}
			if s := x.sum(t, 0, 0); s != (api.Span{}) {
				t.Error(s)
			}
			if s, e := burn.Sum(x.h, x.r, 0, 1); s != (api.Span{}) || e != api.ErrArg {
				t.Error(s, e)
			}
			for _, level := range []int{1, 100, math.MaxInt} {
				if s, known := x.first(t, level); s != (api.Span{}) || known != api.KnownNo {
					t.Error(s, known)
				}
			}
		}
	}
	// One reading more, and there is a second.
	x := example()
	x.h.Lag, x.r = span(0, 30), make([]int, 31)
	if s := x.heat(t, 0); s != span(17*100*209000, 18*110*209500) {
		t.Error(s)
	}
}

// P4.1 to P4.3: as many readings as there may be, with the greatest lag and without one.
func TestMaxReads(t *testing.T) {
	x := example()
	x.r = slices.Repeat([]int{210000}, api.MaxReads)
	x.r[119] = 208000
	for _, lag := range []int{0, 1, 29, 30} {
		x.h.Lag = span(lag, lag)
		last := 119 - lag
		if s := x.heat(t, last); s != span(1700000, 2970000) {
			t.Error(lag, s)
		}
		if s := x.heat(t, last-1); s != span(0, 0) {
			t.Error(lag, s)
		}
		if s := x.sum(t, 0, last+1); s != span(1700000, 2970000) {
			t.Error(lag, s)
		}
		if s, known := x.first(t, 1700000); s != span(last, last) || known != api.KnownYes {
			t.Error(lag, s, known)
		}
		if s, e := burn.Heat(x.h, x.r, last+1); s != (api.Span{}) || e != api.ErrArg {
			t.Error(lag, s, e)
		}
	}
	// With the lag 0 the last reading is one of no second of heat, since the lag may be 30.
	x.h.Lag = span(0, 30)
	if s := x.sum(t, 0, 90); s != span(0, 2970000) {
		t.Error(s)
	}
	if s, known := x.first(t, 1700000); s != span(89, 89) || known != api.KnownOpen {
		t.Error(s, known)
	}
}

// P4.1: an error makes more be missing, or less, and never less than nothing.
func TestDrift(t *testing.T) {
	for _, y := range []struct {
		reading, drift int
		want           api.Span
	}{
		{90, 0, span(10, 20)}, {90, 3, span(7, 23)}, {90, 10, span(0, 30)}, {90, 11, span(0, 31)}, {90, 1000, span(0, 1020)},
		{120, 0, span(0, 0)}, {120, 10, span(0, 0)}, {120, 11, span(0, 1)}, {110, 0, span(0, 0)}, {110, 1, span(0, 1)}, {105, 0, span(0, 5)}, {105, 5, span(0, 10)},
	} {
		x := fire{h: api.Hood{Base: span(100, 110), Flow: span(1, 1), Joule: span(1, 1), Drift: y.drift}, r: []int{y.reading}}
		if s := x.heat(t, 0); s != y.want {
			t.Error(y, s)
		}
	}
	// It is of each second for itself.
	x := fire{h: api.Hood{Base: span(100, 100), Flow: span(2, 3), Joule: span(5, 7), Drift: 10}, r: []int{50, 90, 95}}
	if s := x.sum(t, 0, 3); s != span(10*(40+0+0), 21*(60+20+15)) {
		t.Error(s)
	}
}

// P4.2: all seconds of a truth have one lag, so that a sum is less than what its seconds may be by themselves.
func TestSumOfOneLag(t *testing.T) {
	x := fire{h: api.Hood{Base: span(1000, 1000), Flow: span(1, 1), Joule: span(1, 1), Lag: span(0, 1)}, r: []int{1000, 0, 1000}}
	if a, b, c := x.heat(t, 0), x.heat(t, 1), x.sum(t, 0, 2); a != span(0, 1000) || b != span(0, 1000) || c != span(1000, 1000) {
		t.Error(a, b, c)
	}
}

// steps is a fire whose heat is known, but for the error, and is 10 times each number.
func steps(drift int, numbers ...int) fire {
	x := fire{h: api.Hood{Base: span(1000, 1000), Flow: span(5, 5), Joule: span(2, 2), Drift: drift}}
	for _, n := range numbers {
		x.r = append(x.r, 1000-n)
	}
	return x
}

// P4.3: which second may be the first one, and which one must be.
func TestFirst(t *testing.T) {
	for i, y := range []struct {
		x     fire
		level int
		first api.Span
		known uint8
	}{
		{steps(0, 0, 0, 0), 1, span(0, 0), api.KnownNo},
		{steps(0, 1, 2, 3), 1, span(0, 0), api.KnownYes},
		{steps(0, 1, 2, 3), 10, span(0, 0), api.KnownYes},
		{steps(0, 1, 2, 3), 11, span(1, 1), api.KnownYes},
		{steps(0, 1, 2, 3), 30, span(2, 2), api.KnownYes},
		{steps(0, 1, 2, 3), 31, span(0, 0), api.KnownNo},
		// Some second may reach it, and a later one, but not for sure.
		{steps(2, 5, 0, 5, 0, 1), 70, span(0, 2), api.KnownOpen},
		{steps(2, 5, 0, 5, 0, 1), 71, span(0, 0), api.KnownNo},
		// The third second reaches it for sure, so that the fifth one is never the first.
		{steps(2, 5, 0, 9, 0, 5), 70, span(0, 2), api.KnownYes},
		{steps(2, 5, 0, 9, 0, 9), 71, span(2, 4), api.KnownOpen},
		{steps(2, 0, 9, 5, 9), 70, span(1, 1), api.KnownYes},
		// It is for sure in the first second.
		{steps(1, 9, 20, 30), 80, span(0, 0), api.KnownYes},
		{steps(1, 9, 20, 30), 81, span(0, 1), api.KnownYes},
		// In the last one.
		{steps(1, 1, 1, 9), 80, span(2, 2), api.KnownYes},
		{steps(1, 1, 1, 9), 100, span(2, 2), api.KnownOpen},
	} {
		if s, known := y.x.first(t, y.level); s != y.first || known != y.known {
			t.Error(i, s, known)
		}
	}
}

// P4.3: lags with which a level is reached, and others with which it is not.
func TestFirstOfLags(t *testing.T) {
	late := func(lo, hi int, x fire) fire {
		x.h.Lag = span(lo, hi)
		return x
	}
	for i, y := range []struct {
		x     fire
		level int
		first api.Span
		known uint8
	}{
		// With the lag 3 the reading 3 is one of the second 0, with the lag 0 one of the second 3.
		{late(0, 3, steps(0, 0, 0, 0, 9, 0, 0, 0)), 90, span(0, 3), api.KnownYes},
		{late(1, 2, steps(0, 0, 0, 0, 9, 0, 0, 0)), 90, span(1, 2), api.KnownYes},
		// With the lag 0 there is no such second of heat.
		{late(0, 3, steps(0, 0, 0, 0, 9, 0, 0)), 90, span(0, 2), api.KnownOpen},
		{late(0, 3, steps(0, 0, 0, 0, 0, 0, 9)), 90, span(2, 2), api.KnownOpen},
		// With the greatest lag there is none.
		{late(0, 3, steps(0, 0, 9, 0, 0, 0, 0)), 90, span(0, 1), api.KnownOpen},
		// For sure with one lag, perhaps with another one.
		{late(0, 1, steps(2, 9, 5, 5, 5)), 70, span(0, 2), api.KnownOpen},
		{late(0, 1, steps(2, 9, 5, 9, 5)), 70, span(0, 1), api.KnownYes},
		{late(0, 1, steps(2, 0, 5, 9, 0)), 70, span(0, 2), api.KnownYes},
		{late(0, 1, steps(2, 0, 5, 9, 0)), 110, span(1, 2), api.KnownOpen},
		{late(0, 1, steps(2, 0, 5, 9, 0)), 111, span(0, 0), api.KnownNo},
	} {
		if s, known := y.x.first(t, y.level); s != y.first || known != y.known {
			t.Error(i, s, known)
		}
	}
}

// P4.4: a lamp that did not foul, or whose bounds are as far from each other as they may be.
func TestLampAtEdges(t *testing.T) {
	for i, y := range []struct {
		x           glow
		clean, dark api.Span
	}{
		// Before and After are the same: the dark is known.
		{glow{api.Lamp{Before: 1000, After: 1000}, []int{600}}, span(1000, 1000), span(400, 400)},
		{glow{api.Lamp{Before: 1, After: 1}, []int{0}}, span(1, 1), span(1000, 1000)},
		{glow{api.Lamp{Before: 1, After: 1}, []int{1}}, span(1, 1), span(0, 0)},
		{glow{api.Lamp{Before: 3, After: 3}, []int{1}}, span(3, 3), span(667, 667)},
		{glow{api.Lamp{Before: 3, After: 3}, []int{2}}, span(3, 3), span(334, 334)},
		{glow{api.Lamp{Before: 1000000, After: 1000000}, []int{999}}, span(1000000, 1000000), span(1000, 1000)},
		{glow{api.Lamp{Before: 1000000, After: 1000000}, []int{1000}}, span(1000000, 1000000), span(999, 999)},
		{glow{api.Lamp{Before: 1000000, After: 1000000}, []int{999999}}, span(1000000, 1000000), span(1, 1)},
		{glow{api.Lamp{Before: 1000000, After: 1000000}, []int{1000000}}, span(1000000, 1000000), span(0, 0)},
		// No light is as dark as can be, whatever would come through clean air.
		{glow{api.Lamp{Before: 1000, After: 1}, []int{0}}, span(1, 1000), span(1000, 1000)},
		{glow{api.Lamp{Before: 1000, After: 800}, []int{0, 0, 0}}, span(800, 1000), span(1000, 1000)},
		// The light is below After, just there, and above it.
		{glow{api.Lamp{Before: 1000, After: 800}, []int{799}}, span(800, 1000), span(2, 201)},
		{glow{api.Lamp{Before: 1000, After: 800}, []int{800}}, span(800, 1000), span(0, 200)},
		{glow{api.Lamp{Before: 1000, After: 800}, []int{801}}, span(801, 1000), span(0, 199)},
		{glow{api.Lamp{Before: 1000, After: 800}, []int{1000}}, span(1000, 1000), span(0, 0)},
		// A later light tells that the air was clean enough for it.
		{glow{api.Lamp{Before: 1000, After: 800}, []int{400, 0, 900, 0}}, span(900, 1000), span(556, 600)},
		{glow{api.Lamp{Before: 1000, After: 800}, []int{400, 1000}}, span(1000, 1000), span(600, 600)},
		{glow{api.Lamp{Before: 1000, After: 800}, []int{400, 700, 799}}, span(800, 1000), span(500, 600)},
	} {
		if a, b := y.x.clean(t, 0), y.x.dark(t, 0); a != y.clean || b != y.dark {
			t.Error(i, a, b)
		}
	}
	// An earlier light tells nothing of a later second.
	x := glow{api.Lamp{Before: 1000, After: 500}, []int{1000, 250}}
	if a, b, c := x.clean(t, 1), x.dark(t, 1), x.smoke(t, 0, 2); a != span(500, 1000) || b != span(500, 750) || c != span(500, 750) {
		t.Error(a, b, c)
	}
	x = glow{l: api.Lamp{Before: 5, After: 5}}
	if s := x.smoke(t, 0, 0); s != (api.Span{}) {
		t.Error(s)
	}
}

// P4.4: sums over as many lights as there may be.
func TestMaxLights(t *testing.T) {
	x := glow{api.Lamp{Before: 1000000, After: 1}, make([]int, api.MaxReads)}
	if s := x.smoke(t, 0, 120); s != span(120000, 120000) {
		t.Error(s)
	}
	x.r[119] = 1000000
	if s := x.smoke(t, 0, 120); s != span(119000, 119000) {
		t.Error(s)
	}
	for second := range 120 {
		if s := x.clean(t, second); s != span(1000000, 1000000) {
			t.Error(second, s)
		}
	}
	x.r = slices.Repeat([]int{1}, 120)
	if s := x.smoke(t, 0, 120); s != span(0, 120000) {
		t.Error(s)
	}
}

// R5: the greatest heat, and the greatest sum of it.
func TestGreatest(t *testing.T) {
	x := fire{h: api.Hood{Base: span(0, 1000000), Flow: span(0, 10000), Joule: span(0, 30000), Drift: 1000}, r: make([]int, 120)}
	most := 30000 * 10000 * 1001000
	if s := x.heat(t, 119); s != span(0, most) {
		t.Error(s)
	}
	if s := x.sum(t, 0, 120); s != span(0, 120*most) {
		t.Error(s)
	}
	for level, want := range map[int]uint8{most - 1: api.KnownOpen, most: api.KnownOpen, most + 1: api.KnownNo} {
		first := span(0, 119)
		if want == api.KnownNo {
			first = api.Span{}
		}
		if s, known := x.first(t, level); s != first || known != want {
			t.Error(level, s, known)
		}
	}
	x.h.Base, x.h.Flow, x.h.Joule = span(1000000, 1000000), span(10000, 10000), span(30000, 30000)
	if s := x.sum(t, 0, 120); s != span(120*30000*10000*999000, 120*most) {
		t.Error(s)
	}
}
