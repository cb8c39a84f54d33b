package burn_test

import (
	"math"
	"slices"
	"testing"

	"cottonpad/api"
	"cottonpad/burn"
)

// beyond are numbers that are far outside of all spans.
func beyond() []int {
	return []int{math.MinInt, math.MinInt + 1, math.MinInt32 - 1, math.MaxInt32 + 1, math.MaxInt - 1, math.MaxInt}
}

// expect checks the error of all functions with a fire, and that all else is zero.
func expect(t *testing.T, name any, x fire, want api.Errno) {
	t.Helper()
	if e := burn.Check(x.h, x.r); e != want {
		t.Error(name, "Check", e, want)
	}
	if s, e := burn.Sum(x.h, x.r, 0, 0); e != want || s != (api.Span{}) {
		t.Error(name, "Sum", s, e)
	}
	if s, known, e := burn.First(x.h, x.r, math.MaxInt); e != want || known != 0 || s != (api.Span{}) {
		t.Error(name, "First", s, known, e)
	}
	if s, e := burn.Heat(x.h, x.r, 0); want == api.OK && x.seconds() > 0 && e != want || want != api.OK && (e != want || s != (api.Span{})) {
		t.Error(name, "Heat", s, e)
	}
	// What is wrong with the hood, or the readings, comes before the other arguments.
	arg := want
	if want == api.OK {
		arg = api.ErrArg
	}
	for _, n := range append(beyond(), -1, api.MaxReads+1) {
		if s, e := burn.Heat(x.h, x.r, n); e != arg || s != (api.Span{}) {
			t.Error(name, "Heat", n, s, e)
		}
		if s, e := burn.Sum(x.h, x.r, n, n); e != arg || s != (api.Span{}) {
			t.Error(name, "Sum", n, s, e)
		}
		if s, known, e := burn.First(x.h, x.r, min(n, 0)); e != arg || known != 0 || s != (api.Span{}) {
			t.Error(name, "First", n, s, known, e)
		}
	}
}

// expectLamp does the same with a lamp.
func expectLamp(t *testing.T, name any, x glow, want api.Errno) {
	t.Helper()
	if s, e := burn.Smoke(x.l, x.r, 0, 0); e != want || s != (api.Span{}) {
		t.Error(name, "Smoke", s, e)
	}
	arg := want
	if want == api.OK {
		arg = api.ErrArg
	}
	for _, n := range append(beyond(), -1, 0, api.MaxReads+1) {
		is := arg
		if n == 0 && want == api.OK && len(x.r) > 0 {
			is = api.OK
		}
		if s, e := burn.Clean(x.l, x.r, n); e != is || e != api.OK && s != (api.Span{}) {
			t.Error(name, "Clean", n, s, e)
		}
		if s, e := burn.Dark(x.l, x.r, n); e != is || e != api.OK && s != (api.Span{}) {
			t.Error(name, "Dark", n, s, e)
		}
		if n == 0 {
			continue
		}
		if s, e := burn.Smoke(x.l, x.r, n, n); e != arg || s != (api.Span{}) {
			t.Error(name, "Smoke", n, s, e)
		}
	}
}

// P4.1, R5 and R6: each number of a hood, and of readings, at its bounds, beyond them, and far beyond them.
func TestBounds(t *testing.T) {
	for _, b := range []struct {
		name   string
		field  func(x *fire) *api.Span
		lo, hi int
	}{
		{"base", func(x *fire) *api.Span { return &x.h.Base }, 0, 1000000},
		{"flow", func(x *fire) *api.Span { return &x.h.Flow }, 0, 10000},
		{"joule", func(x *fire) *api.Span { return &x.h.Joule }, 0, 30000},
		{"lag", func(x *fire) *api.Span { return &x.h.Lag }, 0, 30},
	} {
		set := func(lo, hi int) fire { return example().with(func(x *fire) { *b.field(x) = span(lo, hi) }) }
		for _, s := range []api.Span{span(b.lo, b.lo), span(b.hi, b.hi), span(b.lo, b.hi), span(b.lo, b.lo+1), span(b.hi-1, b.hi), span(7, 7)} {
			expect(t, b.name, set(s.Lo, s.Hi), api.OK)
		}
		for _, s := range []api.Span{span(b.lo+1, b.lo), span(b.hi, b.hi-1), span(b.hi, b.lo), span(7, 6)} {
			expect(t, b.name, set(s.Lo, s.Hi), api.ErrHood)
		}
		for _, n := range append(beyond(), b.lo-1, b.hi+1) {
			expect(t, b.name, set(n, n), api.ErrHood)
			expect(t, b.name, set(n, b.hi), api.ErrHood)
			expect(t, b.name, set(b.lo, n), api.ErrHood)
			expect(t, b.name, set(n, b.lo), api.ErrHood)
		}
	}
	for _, n := range []int{0, 1, 1000} {
		expect(t, "drift", example().with(func(x *fire) { x.h.Drift = n }), api.OK)
	}
	for _, n := range append(beyond(), -1, 1001) {
		expect(t, "drift", example().with(func(x *fire) { x.h.Drift = n }), api.ErrHood)
	}
	for i := range example().r {
		for _, n := range []int{0, 1, 1000000} {
			expect(t, "reading", example().with(func(x *fire) { x.r[i] = n }), api.OK)
		}
		for _, n := range append(beyond(), -1, 1000001) {
			expect(t, "reading", example().with(func(x *fire) { x.r[i] = n }), api.ErrReads)
		}
	}
}

// P4.1: how many readings there may be, and which error comes first.
func TestCheck(t *testing.T) {
	for i, x := range []struct {
		change func(x *fire)
		e      api.Errno
	}{
		{func(x *fire) {}, api.OK},
		{func(x *fire) { *x = fire{} }, api.OK},
		{func(x *fire) { x.r = nil }, api.OK},
		{func(x *fire) { x.r = []int{} }, api.OK},
		{func(x *fire) { x.r = make([]int, 119) }, api.OK},
		{func(x *fire) { x.r = make([]int, 120) }, api.OK},
		{func(x *fire) { x.r = make([]int, 121) }, api.ErrReads},
		{func(x *fire) { x.r = make([]int, 5000) }, api.ErrReads},
		{func(x *fire) { x.r, x.h.Drift = make([]int, 121), -1 }, api.ErrHood},
		{func(x *fire) { x.r, x.h.Base.Lo = []int{-1}, -1 }, api.ErrHood},
		{func(x *fire) { x.h.Base, x.h.Flow, x.h.Joule = api.Span{}, api.Span{}, api.Span{} }, api.OK},
	} {
		expect(t, i, example().with(x.change), x.e)
	}
}

// P4.4: each number of a lamp, and of lights, and which error comes first.
func TestLamps(t *testing.T) {
	lamp := func(before, after int) glow { return glow{l: api.Lamp{Before: before, After: after}, r: []int{0, 1}} }
	for _, x := range [][2]int{{1, 1}, {2, 1}, {2, 2}, {1000000, 1}, {1000000, 1000000}, {999999, 1}, {1000, 999}} {
		expectLamp(t, x, lamp(x[0], x[1]), api.OK)
	}
	for _, x := range [][2]int{{0, 0}, {0, 1}, {1, 0}, {1, 2}, {1000000, 1000001}, {1000001, 1}, {1000001, 1000001}, {-1, -1}, {-1, -2}, {999, 1000}, {5, 0}, {5, -1}, {5, 6}} {
		expectLamp(t, x, lamp(x[0], x[1]), api.ErrLamp)
	}
	for _, n := range beyond() {
		expectLamp(t, n, lamp(n, 1), api.ErrLamp)
		expectLamp(t, n, lamp(1, n), api.ErrLamp)
		expectLamp(t, n, lamp(n, n), api.ErrLamp)
	}
	for i := range exampleGlow().r {
		for _, n := range []int{0, 1, 799, 800, 1000} {
			expectLamp(t, n, exampleGlow().with(func(x *glow) { x.r[i] = n }), api.OK)
		}
		for _, n := range append(beyond(), -1, 1001) {
			expectLamp(t, n, exampleGlow().with(func(x *glow) { x.r[i] = n }), api.ErrReads)
			expectLamp(t, n, exampleGlow().with(func(x *glow) { x.r[i], x.l.After = n, 0 }), api.ErrLamp)
		}
	}
	for count, want := range map[int]api.Errno{0: api.OK, 1: api.OK, 119: api.OK, 120: api.OK, 121: api.ErrReads, 5000: api.ErrReads} {
		expectLamp(t, count, exampleGlow().with(func(x *glow) { x.r = make([]int, count) }), want)
	}
	expectLamp(t, "empty", glow{}, api.ErrLamp)
	expectLamp(t, "many", glow{r: make([]int, 121)}, api.ErrLamp)
}

// P4.1 to P4.4: just the seconds that there are.
func TestSeconds(t *testing.T) {
	for readings := range 9 {
		for hi := range 9 {
			x := example().with(func(x *fire) { x.h.Lag, x.r = span(min(1, hi), hi), make([]int, readings) })
			l := exampleGlow().with(func(x *glow) { x.r = make([]int, readings) })
			for n := -2; n <= 11; n++ {
				_, e := burn.Heat(x.h, x.r, n)
				if want := 0 <= n && n < readings-hi; want != (e == api.OK) || !want && e != api.ErrArg {
					t.Error("Heat", readings, hi, n, e)
				}
				_, e = burn.Clean(l.l, l.r, n)
				_, f := burn.Dark(l.l, l.r, n)
				if want := 0 <= n && n < readings; want != (e == api.OK) || !want && e != api.ErrArg || e != f {
					t.Error("Clean, Dark", readings, n, e, f)
				}
				for to := -2; to <= 11; to++ {
					_, e = burn.Sum(x.h, x.r, n, to)
					if want := 0 <= n && n <= to && to <= max(0, readings-hi); want != (e == api.OK) || !want && e != api.ErrArg {
						t.Error("Sum", readings, hi, n, to, e)
					}
					_, e = burn.Smoke(l.l, l.r, n, to)
					if want := 0 <= n && n <= to && to <= readings; want != (e == api.OK) || !want && e != api.ErrArg {
						t.Error("Smoke", readings, n, to, e)
					}
				}
			}
		}
	}
}

// P4.2 to P4.4 and R5: from, to and level of any size.
func TestArguments(t *testing.T) {
	x, l := example(), exampleGlow()
	for _, n := range beyond() {
		for _, m := range append(beyond(), -1, 0, 1, 3) {
			for _, pair := range [][2]int{{n, m}, {m, n}} {
				if s, e := burn.Sum(x.h, x.r, pair[0], pair[1]); s != (api.Span{}) || e != api.ErrArg {
					t.Error("Sum", pair, s, e)
				}
				if s, e := burn.Smoke(l.l, l.r, pair[0], pair[1]); s != (api.Span{}) || e != api.ErrArg {
					t.Error("Smoke", pair, s, e)
				}
			}
		}
	}
	for _, level := range []int{0, -1, -2, math.MinInt, math.MinInt + 1, math.MinInt32} {
		if s, known, e := burn.First(x.h, x.r, level); s != (api.Span{}) || known != 0 || e != api.ErrArg {
			t.Error(level, s, known, e)
		}
	}
	for _, level := range []int{1, 2, 4950000, 4950001, math.MaxInt32 + 1, math.MaxInt - 1, math.MaxInt} {
		if _, _, e := burn.First(x.h, x.r, level); e != api.OK {
			t.Error(level, e)
		}
	}
	if !slices.Equal(x.r, example().r) || !slices.Equal(l.r, exampleGlow().r) {
		t.Error("readings are written to")
	}
}
