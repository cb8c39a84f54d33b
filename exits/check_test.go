package exits_test

import (
	"math"
	"slices"
	"testing"

	"cottonpad/api"
	"cottonpad/exits"
)

// beyond are numbers that are far outside of all spans.
func beyond() []int {
	return []int{math.MinInt, math.MinInt + 1, math.MinInt32 - 1, math.MaxInt32 + 1, math.MaxInt - 1, math.MaxInt}
}

// anybody is valid in each building.
func anybody() api.Walker { return api.Walker{Pace: only(1000), Wait: only(0)} }

// nobody is valid in no building.
func nobody() api.Walker { return api.Walker{Chamber: -1, Pace: only(1000), Wait: only(0)} }

func expectError(t *testing.T, name any, s scene, want api.Errno) {
	t.Helper()
	if e := exits.Check(s.b, s.w); e != want {
		t.Error(name, "Check", e, want)
	}
	if out, e := exits.Out(s.b, s.w); e != want || e != api.OK && out != (api.Span{}) {
		t.Error(name, "Out", out, e, want)
	}
	if known, chamber, stair, e := exits.Safe(s.b, s.w); e != want || e != api.OK && (known != 0 || chamber != 0 || stair != 0) {
		t.Error(name, "Safe", known, chamber, stair, e, want)
	}
}

func expectErrorOfLeaves(t *testing.T, name any, s scene, stair int, want api.Errno) {
	t.Helper()
	if list, e := exits.Leaves(s.b, s.w, stair); e != want || e != api.OK && len(list) > 0 {
		t.Error(name, "Leaves", stair, list, e, want)
	}
}

func expectErrorOfMore(t *testing.T, name any, s scene, like api.Walker, want api.Errno) {
	t.Helper()
	if n, e := exits.More(s.b, s.w, like); e != want || e != api.OK && n != 0 {
		t.Error(name, "More", n, e, want)
	}
}

// expect checks the error of all functions with a scene; what is wrong with it comes before the other arguments.
func expect(t *testing.T, name any, s scene, want api.Errno) {
	t.Helper()
	expectError(t, name, s, want)
	expectErrorOfLeaves(t, name, s, 0, want)
	arg := want
	if want == api.OK {
		arg = api.ErrArg
	}
	expectErrorOfLeaves(t, name, s, -1, arg)
	expectErrorOfLeaves(t, name, s, len(s.b.Stairs), arg)
	expectErrorOfMore(t, name, s, nobody(), arg)
	if want != api.OK {
		expectErrorOfMore(t, name, s, anybody(), want)
		return
	}
	if n, e := exits.More(s.b, s.w, anybody()); e != api.OK && e != api.ErrBad || n < 0 || n > api.MaxWalkers-len(s.w) {
		t.Error(name, "More", n, e)
	}
}

// hopeless is a scene with people who are not valid, so that it shows whether the building is checked before them.
func (s scene) hopeless() scene { return s.joined(nobody()) }

// P6.1, R5 and R6: each number of a building and of people at its bounds, beyond them, and far beyond them.
func TestBounds(t *testing.T) {
	for _, b := range []struct {
		name   string
		field  func(s *scene) *int
		lo, hi int
		e      api.Errno
	}{
		{"next", func(s *scene) *int { return &s.b.Stairs[0].Next }, 1, 1, api.ErrBuilding},
		{"next of the last one", func(s *scene) *int { return &s.b.Stairs[1].Next }, -1, -1, api.ErrBuilding},
		{"gap", func(s *scene) *int { return &s.b.Stairs[0].Gap }, 0, 60, api.ErrBuilding},
		{"gap of the last one", func(s *scene) *int { return &s.b.Stairs[1].Gap }, 0, 60, api.ErrBuilding},
		{"stair", func(s *scene) *int { return &s.b.Chambers[0].Stair }, 0, 1, api.ErrBuilding},
		{"stair of the last one", func(s *scene) *int { return &s.b.Chambers[1].Stair }, 0, 1, api.ErrBuilding},
		{"way", func(s *scene) *int { return &s.b.Chambers[0].Way }, 0, 100000, api.ErrBuilding},
		{"way of the last one", func(s *scene) *int { return &s.b.Chambers[1].Way }, 0, 100000, api.ErrBuilding},
		{"chamber", func(s *scene) *int { return &s.w[0].Chamber }, 0, 1, api.ErrWalkers},
		{"chamber of the last one", func(s *scene) *int { return &s.w[2].Chamber }, 0, 1, api.ErrWalkers},
	} {
		set := func(to int) scene { return example().with(func(s *scene) { *b.field(s) = to }) }
		for to := b.lo; to <= b.hi; to += max(1, (b.hi-b.lo)/3) {
			expect(t, b.name, set(to), api.OK)
		}
		expect(t, b.name, set(b.hi), api.OK)
		for _, to := range append(beyond(), b.lo-1, b.hi+1) {
			if b.name == "next" && to == api.Outside {
				continue
			}
			expect(t, b.name, set(to), b.e)
			expect(t, b.name, set(to).hopeless(), b.e)
		}
	}
}

// P6.1 and R5: the index of the next stair, for each stair of many.
func TestNext(t *testing.T) {
	for i := range api.MaxStairs {
		for next := -3; next <= api.MaxStairs+1; next++ {
			want := api.ErrBuilding
			if next == -1 || next > i && next < api.MaxStairs {
				want = api.OK
			}
			expect(t, []int{i, next}, greatest().with(func(s *scene) { s.b.Stairs[i].Next = next }), want)
		}
		for _, next := range beyond() {
			expect(t, []int{i, next}, greatest().with(func(s *scene) { s.b.Stairs[i].Next = next }), api.ErrBuilding)
		}
	}
}

// P6.1, R5 and R6: each span at its bounds, beyond them, and with Lo above Hi.
func TestBoundsOfSpans(t *testing.T) {
	for _, b := range []struct {
		name   string
		field  func(s *scene) *api.Span
		lo, hi int
		e      api.Errno
	}{
		{"walk", func(s *scene) *api.Span { return &s.b.Stairs[0].Walk }, 0, 600, api.ErrBuilding},
		{"walk of the last one", func(s *scene) *api.Span { return &s.b.Stairs[1].Walk }, 0, 600, api.ErrBuilding},
		{"smoke of a stair", func(s *scene) *api.Span { return &s.b.Stairs[0].Smoke }, 0, 36000, api.ErrBuilding},
		{"smoke of the last stair", func(s *scene) *api.Span { return &s.b.Stairs[1].Smoke }, 0, 36000, api.ErrBuilding},
		{"smoke of a chamber", func(s *scene) *api.Span { return &s.b.Chambers[0].Smoke }, 0, 36000, api.ErrBuilding},
		{"smoke of the last chamber", func(s *scene) *api.Span { return &s.b.Chambers[1].Smoke }, 0, 36000, api.ErrBuilding},
		{"pace", func(s *scene) *api.Span { return &s.w[0].Pace }, 100, 3000, api.ErrWalkers},
		{"pace of the last one", func(s *scene) *api.Span { return &s.w[2].Pace }, 100, 3000, api.ErrWalkers},
		{"wait", func(s *scene) *api.Span { return &s.w[0].Wait }, 0, 3600, api.ErrWalkers},
		{"wait of the last one", func(s *scene) *api.Span { return &s.w[2].Wait }, 0, 3600, api.ErrWalkers},
	} {
		check := func(lo, hi int, want api.Errno) {
			t.Helper()
			s := example().with(func(s *scene) { *b.field(s) = span(lo, hi) })
			expect(t, b.name, s, want)
			if want == api.OK {
				expect(t, b.name, s.hopeless(), api.ErrWalkers)
			} else {
				expect(t, b.name, s.hopeless(), want)
			}
		}
		for _, s := range []api.Span{only(b.lo), span(b.lo, b.lo+1), only(b.lo + 7), span(b.lo, b.hi), span(b.hi-1, b.hi), only(b.hi)} {
			check(s.Lo, s.Hi, api.OK)
		}
		for _, s := range []api.Span{span(b.lo+1, b.lo), span(b.lo+7, b.lo+6), span(b.hi, b.lo), span(b.hi, b.hi-1)} {
			check(s.Lo, s.Hi, b.e)
		}
		for _, n := range append(beyond(), b.lo-1, b.hi+1) {
			check(n, n, b.e)
			check(n, b.hi, b.e)
			check(b.lo, n, b.e)
			check(n, b.lo, b.e)
		}
	}
}

// cut is the greatest scene with just so many of each list.
func cut(stairs, chambers, walkers int) scene {
	s := greatest()
	s.b.Stairs, s.b.Chambers, s.w = s.b.Stairs[:stairs], s.b.Chambers[:chambers], s.w[:walkers]
	if stairs > 0 {
		s.b.Stairs[stairs-1].Next = api.Outside
	}
	for i := range s.b.Chambers {
		s.b.Chambers[i].Stair = max(0, min(i, stairs-1))
	}
	for i := range s.w {
		s.w[i].Chamber = max(0, min(i, chambers-1))
	}
	return s
}

// P6.1: how many stairs, chambers and walkers there may be.
func TestCheck(t *testing.T) {
	for stairs := 0; stairs <= api.MaxStairs; stairs++ {
		for chambers := 0; chambers <= api.MaxChambers; chambers++ {
			for walkers := 0; walkers <= api.MaxWalkers; walkers += 6 {
				want := api.OK
				if stairs == 0 || chambers == 0 {
					want = api.ErrBuilding
				}
				expect(t, []int{stairs, chambers, walkers}, cut(stairs, chambers, walkers), want)
			}
		}
	}
	for i, x := range []struct {
		change func(s *scene)
		e      api.Errno
	}{
		{func(s *scene) {}, api.OK},
		{func(s *scene) { *s = scene{} }, api.ErrBuilding},
		{func(s *scene) { s.b = api.Building{} }, api.ErrBuilding},
		{func(s *scene) { s.w = nil }, api.OK},
		{func(s *scene) { s.b.Stairs = append(s.b.Stairs, s.b.Stairs[5]) }, api.ErrBuilding},
		{func(s *scene) { s.b.Stairs = slices.Repeat(s.b.Stairs[5:], 5000) }, api.ErrBuilding},
		{func(s *scene) { s.b.Stairs = s.b.Stairs[:5] }, api.ErrBuilding},
		{func(s *scene) { s.b.Stairs = slices.Repeat(s.b.Stairs[5:], 6) }, api.OK},
		{func(s *scene) { slices.Reverse(s.b.Stairs) }, api.ErrBuilding},
		{func(s *scene) { s.b.Chambers = append(s.b.Chambers, s.b.Chambers[0]) }, api.ErrBuilding},
		{func(s *scene) { s.b.Chambers = slices.Repeat(s.b.Chambers, 500) }, api.ErrBuilding},
		{func(s *scene) { s.b.Chambers[7].Stair = 6 }, api.ErrBuilding},
		{func(s *scene) { s.b.Chambers = s.b.Chambers[:7] }, api.ErrWalkers},
		{func(s *scene) { slices.Reverse(s.b.Chambers) }, api.OK},
		{func(s *scene) { s.w = append(s.w, s.w[0]) }, api.ErrWalkers},
		{func(s *scene) { s.w = slices.Repeat(s.w, 500) }, api.ErrWalkers},
		{func(s *scene) { s.w[23].Chamber = 8 }, api.ErrWalkers},
		{func(s *scene) { s.w[11] = api.Walker{} }, api.ErrWalkers},
		{func(s *scene) { slices.Reverse(s.w) }, api.OK},
	} {
		expect(t, i, greatest().with(x.change), x.e)
	}
}

// P6.1 and R5: there has to be a stair with the index.
func TestIndexOfStair(t *testing.T) {
	for stairs := 1; stairs <= api.MaxStairs; stairs++ {
		s := cut(stairs, 3, 5)
		for i := range stairs {
			expectErrorOfLeaves(t, stairs, s, i, api.OK)
		}
		for _, i := range append(beyond(), -2, api.Outside, stairs, stairs+1) {
			expectErrorOfLeaves(t, stairs, s, i, api.ErrArg)
			expectErrorOfLeaves(t, stairs, s.hopeless(), i, api.ErrWalkers)
			expectErrorOfLeaves(t, stairs, s.with(func(s *scene) { s.b.Stairs[0].Gap = -1 }), i, api.ErrBuilding)
		}
	}
}

// P6.4, R1, R5 and R6: one more has to be people alone, also if there is no room, and this comes before whether the others are safe.
func TestLike(t *testing.T) {
	late := example().with(func(s *scene) { s.b.Chambers[0].Smoke = only(0) })
	perhaps := example().with(func(s *scene) { s.b.Chambers[0].Smoke = span(27, 40) })
	full := cut(6, 8, 24)
	check := func(name any, wrong bool, change func(w *api.Walker)) {
		t.Helper()
		like := anybody()
		change(&like)
		bad := api.ErrBad
		if wrong {
			bad = api.ErrArg
			expectErrorOfMore(t, name, example(), like, api.ErrArg)
			expectErrorOfMore(t, name, full, like, api.ErrArg)
		} else {
			example().more(t, like)
			expectErrorOfMore(t, name, full, like, api.OK)
		}
		expectErrorOfMore(t, name, late, like, bad)
		expectErrorOfMore(t, name, perhaps, like, bad)
		expectErrorOfMore(t, name, late.hopeless(), like, api.ErrWalkers)
		expectErrorOfMore(t, name, late.hopeless().with(func(s *scene) { s.b.Stairs[1].Next = 1 }), like, api.ErrBuilding)
	}
	check("empty", true, func(w *api.Walker) { *w = api.Walker{} })
	for _, n := range []int{0, 1} {
		check(n, false, func(w *api.Walker) { w.Chamber = n })
	}
	for _, n := range append(beyond(), -1, 8) {
		check(n, true, func(w *api.Walker) { w.Chamber = n })
	}
	expectErrorOfMore(t, "no chamber", example(), api.Walker{Chamber: 2, Pace: only(100), Wait: only(0)}, api.ErrArg)
	for _, b := range []struct {
		name   string
		field  func(w *api.Walker) *api.Span
		lo, hi int
	}{
		{"pace", func(w *api.Walker) *api.Span { return &w.Pace }, 100, 3000},
		{"wait", func(w *api.Walker) *api.Span { return &w.Wait }, 0, 3600},
	} {
		for _, s := range []api.Span{only(b.lo), span(b.lo, b.hi), only(b.hi)} {
			check(b.name, false, func(w *api.Walker) { *b.field(w) = s })
		}
		for _, n := range append(beyond(), b.lo-1, b.hi+1) {
			for _, s := range []api.Span{only(n), span(n, b.hi), span(b.lo, n), span(n, b.lo), span(b.lo+1, b.lo), span(b.hi, b.hi-1)} {
				check(b.name, true, func(w *api.Walker) { *b.field(w) = s })
			}
		}
	}
}

// P6.4: if there is no room, those who are not safe as they are stay an error.
func TestBad(t *testing.T) {
	s := greatest()
	expectErrorOfMore(t, "safe", s, s.w[0], api.OK)
	s.b.Stairs[5].Smoke = span(0, 36000)
	expectErrorOfMore(t, "open", s, s.w[0], api.ErrBad)
	s.b.Stairs[5].Smoke = only(0)
	expectErrorOfMore(t, "late", s, s.w[0], api.ErrBad)
	s.w = nil
	if n, e := exits.More(s.b, s.w, greatest().w[0]); n != 0 || e != api.OK {
		t.Error(n, e)
	}
}
