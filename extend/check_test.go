package extend_test

import (
	"math"
	"slices"
	"testing"

	"cottonpad/api"
	"cottonpad/extend"
)

// bound is a number of a scene, and the span of its valid values (all others being as they are in the example).
type bound struct {
	name   string
	field  func(x *scene) *int
	lo, hi int
	e      api.Errno
}

func bounds() []bound {
	list := []bound{
		{"property, first", func(x *scene) *int { return &x.c[0].Property }, 0, 5, api.ErrClauses},
		{"property, last", func(x *scene) *int { return &x.c[3].Property }, 0, 5, api.ErrClauses},
		{"by of up to", func(x *scene) *int { return &x.c[0].By }, 0, 100000, api.ErrClauses},
		{"by of same", func(x *scene) *int { return &x.c[2].By }, 0, 0, api.ErrClauses},
		{"by of from", func(x *scene) *int { return &x.c[3].By }, 0, 100000, api.ErrClauses},
		{"over of up to", func(x *scene) *int { return &x.c[1].Over }, 0, 60, api.ErrClauses},
		{"over of same", func(x *scene) *int { return &x.c[2].Over }, 0, 60, api.ErrClauses},
		{"over of from", func(x *scene) *int { return &x.c[3].Over }, 0, 60, api.ErrClauses},
		{"minutes", func(x *scene) *int { return &x.w.Minutes }, 1, 60, api.ErrWish},
		{"a test", func(x *scene) *int { return &x.s[2].Test.Id }, 0, 9999, api.ErrSpecimens},
		{"a test's run", func(x *scene) *int { return &x.s[0].Test.Run.Id }, 0, 9999, api.ErrSpecimens},
		{"a test's rules", func(x *scene) *int { return &x.s[1].Test.Rules.Single }, 0, 2000, api.ErrSpecimens},
	}
	for i := range api.MaxProperties {
		list = append(list,
			bound{"value of a wish", func(x *scene) *int { return &x.w.Props[i] }, 0, 100000, api.ErrWish},
			bound{"value of the first specimen", func(x *scene) *int { return &x.s[0].Props[i] }, 0, 100000, api.ErrSpecimens},
			bound{"value of the last specimen", func(x *scene) *int { return &x.s[2].Props[i] }, 0, 100000, api.ErrSpecimens})
	}
	return list
}

// expect checks the error of all functions with a scene, and that all else is zero.
func expect(t *testing.T, name any, x scene, want api.Errno) {
	t.Helper()
	if e := extend.Check(x.c, x.s, x.w); e != want {
		t.Error(name, "Check", e, want)
	}
	if l, e := extend.Proves(x.c, x.s, x.w); e != want || e != api.OK && len(l) != 0 || e == api.OK && len(l) != len(x.c) {
		t.Error(name, "Proves", l, e)
	}
	if n, e := extend.Best(x.c, x.s, x.w); e != want || e != api.OK && n != 0 {
		t.Error(name, "Best", n, e)
	}
	none := want
	if want == api.OK && !x.covered(t) {
		none = api.ErrNone
	}
	if l, e := extend.Fewest(x.c, x.s, x.w); e != none || e != api.OK && len(l) != 0 {
		t.Error(name, "Fewest", l, e)
	}
	if l, e := extend.Apart(x.c, x.s, x.w); e != none || e != api.OK && len(l) != 0 {
		t.Error(name, "Apart", l, e)
	}
	if s, e := extend.Reach(x.c, x.s, x.w, 0); e != none || e != api.OK && s != (api.Span{}) {
		t.Error(name, "Reach", s, e)
	}
	// What is wrong with the scene comes before the other argument, and that one before what is not covered.
	arg := want
	if want == api.OK {
		arg = api.ErrArg
	}
	for _, n := range []int{-1, max(len(x.s), api.MaxProperties), math.MinInt, math.MaxInt} {
		if s, e := extend.Reach(x.c, x.s, x.w, n); e != arg || s != (api.Span{}) {
			t.Error(name, "Reach", n, s, e)
		}
		if n, e := extend.Lacks(x.c, x.s, x.w, []int{n}); e != arg || n != 0 {
			t.Error(name, "Lacks", n, e)
		}
	}
}

// P3.1, R5 and R6: each number at its bounds, beyond them, and far beyond them.
func TestBounds(t *testing.T) {
	for _, b := range bounds() {
		for _, n := range []int{b.lo, b.hi} {
			expect(t, b.name, example().with(func(x *scene) { *b.field(x) = n }), api.OK)
		}
		for _, n := range []int{b.lo - 1, b.hi + 1, math.MinInt, math.MaxInt, math.MinInt + 1, math.MaxInt32 + 1} {
			expect(t, b.name, example().with(func(x *scene) { *b.field(x) = n }), b.e)
		}
	}
}

func TestKindsAndLetters(t *testing.T) {
	for n := range 256 {
		want := api.ErrClauses
		if 1 <= n && n <= 3 {
			want = api.OK
		}
		for i := range 2 {
			expect(t, n, example().with(func(x *scene) { x.c[i].Kind, x.c[i].By = uint8(n), 0 }), want)
		}
		if want != api.OK {
			want = api.ErrWish
		}
		expect(t, n, example().with(func(x *scene) { x.w.Letter = uint8(n) }), want)
	}
}

// P3.1: how many there may be of each thing, and which errors come first.
func TestCheck(t *testing.T) {
	for i, x := range []struct {
		change func(x *scene)
		e      api.Errno
	}{
		{func(x *scene) {}, api.OK},
		{func(x *scene) { x.c = nil }, api.ErrClauses},
		{func(x *scene) { x.c = []api.Clause{} }, api.ErrClauses},
		{func(x *scene) { x.c = x.c[:1] }, api.OK},
		{func(x *scene) { x.c = slices.Repeat(x.c, 2) }, api.OK},
		{func(x *scene) { x.c = append(slices.Repeat(x.c, 2), x.c[0]) }, api.ErrClauses},
		{func(x *scene) { x.s = nil }, api.OK},
		{func(x *scene) { x.s = []api.Specimen{} }, api.OK},
		{func(x *scene) { x.s = slices.Repeat(x.s, 3)[:8] }, api.OK},
		{func(x *scene) { x.s = slices.Repeat(x.s, 3) }, api.ErrSpecimens},
		{func(x *scene) { x.s[1].Props = x.s[1].Props[:5] }, api.ErrSpecimens},
		{func(x *scene) { x.s[1].Props = append(x.s[1].Props, 0) }, api.ErrSpecimens},
		{func(x *scene) { x.s[1].Props = nil }, api.ErrSpecimens},
		{func(x *scene) { x.w.Props = x.w.Props[:5] }, api.ErrWish},
		{func(x *scene) { x.w.Props = append(x.w.Props, 0) }, api.ErrWish},
		{func(x *scene) { x.w.Props = nil }, api.ErrWish},
		{func(x *scene) { x.w = api.Wish{} }, api.ErrWish},
		{func(x *scene) { x.s[2] = api.Specimen{} }, api.ErrSpecimens},
		{func(x *scene) { x.c[3] = api.Clause{} }, api.ErrClauses},
		{func(x *scene) { *x = scene{} }, api.ErrClauses},
		// Each error of a test is one of the specimens.
		{func(x *scene) { x.s[2].Test.Run.Rows = nil }, api.ErrSpecimens},
		{func(x *scene) { x.s[2].Test.Rules = api.Rules{} }, api.ErrSpecimens},
		{func(x *scene) { x.s[2].Test.End = 0 }, api.ErrSpecimens},
		{func(x *scene) {
			x.s[2].Test.Notes = append(x.s[2].Test.Notes, note(1500, api.CritGap, 7))
		}, api.ErrSpecimens},
		// Several errors.
		{func(x *scene) { x.c[0].Over, x.s[0].Props, x.w.Minutes = 61, nil, 0 }, api.ErrClauses},
		{func(x *scene) { x.s[0].Props, x.w.Minutes = nil, 0 }, api.ErrSpecimens},
		{func(x *scene) { x.c, x.w.Minutes = nil, 0 }, api.ErrClauses},
		{func(x *scene) { x.c, x.s[0].Test.Id = nil, -1 }, api.ErrClauses},
		// Nothing asks that two differ.
		{func(x *scene) { x.s[1] = x.s[0] }, api.OK},
		{func(x *scene) { x.c[1] = x.c[0] }, api.OK},
	} {
		expect(t, i, example().with(x.change), x.e)
	}
}

// P3.2: what is a list of specimens, and what is none.
func TestSets(t *testing.T) {
	x := example()
	for _, set := range [][]int{nil, {}, {0}, {1}, {2}, {0, 1}, {0, 2}, {1, 2}, {0, 1, 2}} {
		if _, e := extend.Lacks(x.c, x.s, x.w, set); e != api.OK {
			t.Error(set, e)
		}
	}
	for _, set := range [][]int{{-1}, {3}, {0, 0}, {1, 0}, {0, 1, 1}, {0, 2, 1}, {0, 1, 2, 3}, {0, 1, 2, 2}, {-1, 0}, {2, 1, 0}, {math.MinInt}, {math.MaxInt}, {0, math.MinInt}, {0, math.MaxInt}, {64}, {0, 64}, make([]int, 1000)} {
		if n, e := extend.Lacks(x.c, x.s, x.w, set); n != 0 || e != api.ErrArg {
			t.Error(set, n, e)
		}
	}
	x.s = nil
	if n, e := extend.Lacks(x.c, x.s, x.w, nil); n != 0 || e != api.OK {
		t.Error(n, e)
	}
	if n, e := extend.Lacks(x.c, x.s, x.w, []int{0}); n != 0 || e != api.ErrArg {
		t.Error(n, e)
	}
}
