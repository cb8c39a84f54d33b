package buy_test

import (
	"math"
	"slices"
	"testing"

	"cottonpad/api"
	"cottonpad/buy"
)

// beyond are numbers that are far outside of all spans.
func beyond() []int {
	return []int{math.MinInt, math.MinInt + 1, math.MinInt32 - 1, math.MaxInt32 + 1, math.MaxInt - 1, math.MaxInt}
}

// wrongLeaf is valid with no models.
func wrongLeaf() api.Leaf { return leaf(list(-1), nil) }

func expectErrorOfLeaf(t *testing.T, name any, x scene, l api.Leaf, want api.Errno) {
	t.Helper()
	if n, e := buy.Bound(x.c, x.s, x.m, x.o, l); e != want || e != api.OK && n != 0 {
		t.Error(name, "Bound", l, n, e, want)
	}
}

func expectErrorOfLeaves(t *testing.T, name any, x scene, leaves []api.Leaf, coins int, want api.Errno) {
	t.Helper()
	if n, e := buy.Proves(x.c, x.s, x.m, x.o, leaves, coins); e != want || e != api.OK && n != 0 {
		t.Error(name, "Proves", leaves, coins, n, e, want)
	}
}

// expect checks the error of all functions with a scene, that has a plan if it is valid; what is wrong with it comes before the other arguments.
func expect(t *testing.T, name any, x scene, want api.Errno) {
	t.Helper()
	if e := buy.Check(x.c, x.s, x.m, x.o); e != want {
		t.Error(name, "Check", e, want)
	}
	if l, e := buy.Fits(x.c, x.s, x.m, x.o); e != want || e != api.OK && len(l) > 0 {
		t.Error(name, "Fits", l, e, want)
	}
	none := want
	if _, e := buy.Bound(x.c, x.s, x.m, x.o, api.Leaf{}); want == api.OK && e == api.ErrNone {
		none = api.ErrNone
	}
	if plan, n, e := buy.Cheapest(x.c, x.s, x.m, x.o); e != none || e != api.OK && len(plan)+n > 0 {
		t.Error(name, "Cheapest", plan, n, e, want)
	}
	if l, e := buy.Proof(x.c, x.s, x.m, x.o); e != none || e != api.OK && len(l) > 0 {
		t.Error(name, "Proof", l, e, want)
	}
	leaves, arg := want, want
	if want == api.OK {
		leaves, arg = api.ErrLeaves, api.ErrArg
	}
	expectErrorOfLeaf(t, name, x, api.Leaf{}, none)
	expectErrorOfLeaf(t, name, x, wrongLeaf(), leaves)
	expectErrorOfLeaves(t, name, x, nil, 0, want)
	expectErrorOfLeaves(t, name, x, nil, -1, arg)
	expectErrorOfLeaves(t, name, x, []api.Leaf{wrongLeaf()}, 0, leaves)
	expectErrorOfLeaves(t, name, x, []api.Leaf{wrongLeaf()}, -1, leaves)
}

// later returns a copy in which all that is checked after something with an error is wrong, too.
func (x scene) later(e api.Errno) scene {
	return x.with(func(x *scene) {
		if e < api.ErrSpecimens {
			x.s = append(x.s, api.Specimen{})
		}
		if e < api.ErrModels {
			x.m = nil
		}
		if e < api.ErrOpenings {
			x.o = nil
		}
	})
}

// P7.1, R1, R5 and R6: each number at its bounds, beyond them, and far beyond them.
func TestNumbers(t *testing.T) {
	for _, b := range []struct {
		name   string
		field  func(x *scene) *int
		lo, hi int
		e      api.Errno
	}{
		{"fee", func(x *scene) *int { return &x.m[0].Fee }, 0, 1000000, api.ErrModels},
		{"fee of the last one", func(x *scene) *int { return &x.m[2].Fee }, 0, 1000000, api.ErrModels},
		{"price", func(x *scene) *int { return &x.m[0].Price }, 0, 1000000, api.ErrModels},
		{"price of the last one", func(x *scene) *int { return &x.m[2].Price }, 0, 1000000, api.ErrModels},
		{"first test", func(x *scene) *int { return &x.m[0].Tests[0] }, 0, 0, api.ErrModels},
		{"second test", func(x *scene) *int { return &x.m[0].Tests[1] }, 1, 2, api.ErrModels},
		{"a test alone", func(x *scene) *int { return &x.m[2].Tests[0] }, 0, 2, api.ErrModels},
		{"count", func(x *scene) *int { return &x.o[0].Count }, 1, 100, api.ErrOpenings},
		{"count of the last one", func(x *scene) *int { return &x.o[1].Count }, 1, 100, api.ErrOpenings},
		{"minutes", func(x *scene) *int { return &x.o[0].Wish.Minutes }, 1, 60, api.ErrOpenings},
		{"minutes of the last one", func(x *scene) *int { return &x.o[1].Wish.Minutes }, 1, 60, api.ErrOpenings},
		{"a value", func(x *scene) *int { return &x.o[0].Wish.Props[0] }, 0, 100000, api.ErrOpenings},
		{"a value of the last one", func(x *scene) *int { return &x.o[1].Wish.Props[5] }, 0, 100000, api.ErrOpenings},
		{"property", func(x *scene) *int { return &x.c[0].Property }, 0, 5, api.ErrClauses},
		{"over", func(x *scene) *int { return &x.c[3].Over }, 0, 60, api.ErrClauses},
		{"a value of a specimen", func(x *scene) *int { return &x.s[2].Props[5] }, 0, 100000, api.ErrSpecimens},
		{"a test of a specimen", func(x *scene) *int { return &x.s[0].Test.Id }, 0, 9999, api.ErrSpecimens},
	} {
		set := func(to int) scene { return example().with(func(x *scene) { *b.field(x) = to }) }
		for _, to := range []int{b.lo, (b.lo + b.hi) / 2, b.hi} {
			expect(t, b.name, set(to), api.OK)
		}
		for _, to := range append(beyond(), b.lo-1, b.hi+1) {
			expect(t, b.name, set(to), b.e)
			expect(t, b.name, set(to).later(b.e), b.e)
		}
	}
}

// P7.1 and R6: letters of wishes, kinds of clauses.
func TestKindsAndLetters(t *testing.T) {
	for n := range 256 {
		wish, clause := api.ErrOpenings, api.ErrClauses
		if 1 <= n && n <= 3 {
			wish, clause = api.OK, api.OK
		}
		for i := range 2 {
			expect(t, n, example().with(func(x *scene) { x.o[i].Wish.Letter = uint8(n) }), wish)
		}
		expect(t, n, example().with(func(x *scene) { x.c[1].Kind = uint8(n) }), clause)
	}
}

// P7.1: how many there may be of each thing.
func TestCounts(t *testing.T) {
	x := example()
	for n := range 20 {
		models, openings, clauses, specimens := api.ErrModels, api.ErrOpenings, api.ErrClauses, api.ErrSpecimens
		if 1 <= n && n <= 8 {
			models, clauses = api.OK, api.OK
		}
		if 1 <= n && n <= 6 {
			openings = api.OK
		}
		if n <= 8 {
			specimens = api.OK
		}
		expect(t, n, scene{x.c, x.s, slices.Repeat(x.m[:1], n), x.o}, models)
		expect(t, n, scene{x.c, x.s, x.m, slices.Repeat(x.o[:1], n)}, openings)
		expect(t, n, scene{slices.Repeat(x.c[:1], n), x.s, x.m, x.o}, clauses)
		expect(t, n, scene{x.c, slices.Repeat(x.s[:1], n), []api.Model{model(0, 0)}, x.o}, specimens)
	}
	expect(t, "many", scene{x.c, x.s, slices.Repeat(x.m[:1], 5000), x.o}, api.ErrModels)
	expect(t, "many", scene{x.c, x.s, x.m, slices.Repeat(x.o[:1], 5000)}, api.ErrOpenings)
	expect(t, "nothing", scene{}, api.ErrClauses)
	for i, change := range []func(x *scene){
		func(x *scene) { x.m[1] = api.Model{Fee: -1} },
		func(x *scene) { x.m[2].Tests = list(0, 1, 2, 3) },
		func(x *scene) { x.m[0].Tests = list(1, 0) },
		func(x *scene) { x.m[0].Tests = list(1, 1) },
		func(x *scene) { x.m[0].Tests = list(0, 2, 1) },
		func(x *scene) { x.m[0].Tests = list(0, 2, 2) },
		func(x *scene) { x.m[0].Tests = slices.Repeat(list(0), 5000) },
		func(x *scene) { x.s = x.s[:2] },
		func(x *scene) { x.s = nil },
	} {
		expect(t, i, example().with(change), api.ErrModels)
		expect(t, i, example().with(change).later(api.ErrModels), api.ErrModels)
	}
	for i, change := range []func(x *scene){
		func(x *scene) { x.o[1] = api.Opening{} },
		func(x *scene) { x.o[0] = api.Opening{Wish: x.o[0].Wish} },
		func(x *scene) { x.o[0] = api.Opening{Count: 1} },
		func(x *scene) { x.o[0].Wish.Props = x.o[0].Wish.Props[:5] },
		func(x *scene) { x.o[1].Wish.Props = append(x.o[1].Wish.Props, 0) },
		func(x *scene) { x.o[1].Wish.Props = nil },
	} {
		expect(t, i, example().with(change), api.ErrOpenings)
	}
	for i, change := range []func(x *scene){
		func(x *scene) { x.m[0] = api.Model{} },
		func(x *scene) { x.m[0].Tests = []int{} },
		func(x *scene) { x.m[0].Tests = list(0, 1, 2) },
		func(x *scene) { x.m[0].Tests = list(0, 2) },
		func(x *scene) { slices.Reverse(x.m); slices.Reverse(x.o) },
		func(x *scene) { x.m[1] = x.m[0] },
	} {
		expect(t, i, example().with(change), api.OK)
	}
}

// P7.1 and R1: what is wrong with clauses comes before specimens, these before models, and these before openings.
func TestOrderOfErrors(t *testing.T) {
	wrong := []func(x *scene){
		func(x *scene) { x.c[0].By = -1 },
		func(x *scene) { x.s[2].Props = nil },
		func(x *scene) { x.m[2].Price = -1 },
		func(x *scene) { x.o[1].Count = 0 },
	}
	errors := []api.Errno{api.ErrClauses, api.ErrSpecimens, api.ErrModels, api.ErrOpenings}
	for set := range 1 << len(wrong) {
		want := api.OK
		x := example().with(func(x *scene) {
			for i := len(wrong) - 1; i >= 0; i-- {
				if set&(1<<i) != 0 {
					wrong[i](x)
					want = errors[i]
				}
			}
		})
		expect(t, set, x, want)
	}
}

// P7.4, P7.5 and R5: lists of a leaf are of models, in increasing order, no one twice, and none is in both.
func TestLeaves(t *testing.T) {
	x := example()
	check := func(l api.Leaf, want api.Errno) {
		t.Helper()
		none := want
		if want == api.OK && slices.Equal(l.Out[:min(2, len(l.Out))], list(0, 1)) {
			none = api.ErrNone
		}
		expectErrorOfLeaf(t, "leaf", x, l, none)
		// With an opening that no model fits all leaves are void, but have to be valid.
		if want == api.OK {
			none = api.ErrNone
		}
		expectErrorOfLeaf(t, "void", x.with(func(x *scene) { x.m = []api.Model{{}, {}, {}} }), l, none)
		arg := want
		if want == api.OK {
			arg = api.ErrArg
		}
		for _, leaves := range [][]api.Leaf{{l}, {{}, l}, {l, {}}, append(slices.Repeat([]api.Leaf{{}}, 255), l)} {
			expectErrorOfLeaves(t, "leaf", x, leaves, 0, want)
			expectErrorOfLeaves(t, "leaf", x, leaves, -1, arg)
		}
	}
	right := [][]int{nil, {}, {0}, {1}, {2}, {0, 1}, {0, 2}, {1, 2}, {0, 1, 2}}
	for _, in := range right {
		for _, out := range right {
			want := api.OK
			if slices.ContainsFunc(in, func(i int) bool { return slices.Contains(out, i) }) {
				want = api.ErrLeaves
			}
			check(leaf(in, out), want)
		}
	}
	wrong := [][]int{{-1}, {3}, {0, 0}, {1, 0}, {2, 1}, {0, 1, 1}, {0, 1, 2, 3}, {0, 1, 2, 2}, {-1, 0}, slices.Repeat(list(0), 5000)}
	for _, n := range beyond() {
		wrong = append(wrong, list(n), list(0, n), list(n, 0))
	}
	for _, l := range wrong {
		check(leaf(l, nil), api.ErrLeaves)
		check(leaf(nil, l), api.ErrLeaves)
		check(leaf(l, l), api.ErrLeaves)
		check(leaf(l, list(2)), api.ErrLeaves)
		check(leaf(list(2), l), api.ErrLeaves)
	}
	// How many models there are is what counts.
	x.m = x.m[:1]
	expectErrorOfLeaf(t, "one", x, leaf(list(0), nil), api.OK)
	expectErrorOfLeaf(t, "one", x, leaf(nil, list(0)), api.ErrNone)
	expectErrorOfLeaf(t, "one", x, leaf(list(1), nil), api.ErrLeaves)
	expectErrorOfLeaf(t, "one", x, leaf(nil, list(1)), api.ErrLeaves)
}

// P7.5 and R5: how many leaves there may be, and what a cost may be.
func TestCountOfLeavesAndCost(t *testing.T) {
	x := example()
	for _, n := range []int{0, 1, 2, 255, 256} {
		leaves := slices.Repeat([]api.Leaf{{}}, n)
		expectErrorOfLeaves(t, n, x, leaves, 0, api.OK)
		expectErrorOfLeaves(t, n, x, leaves, 1, api.OK)
		expectErrorOfLeaves(t, n, x, leaves, 999999999999, api.OK)
		expectErrorOfLeaves(t, n, x, leaves, 1000000000000, api.OK)
		for _, coins := range append(beyond()[:3], -1, 1000000000001, math.MaxInt-1, math.MaxInt) {
			expectErrorOfLeaves(t, n, x, leaves, coins, api.ErrArg)
		}
	}
	for _, n := range []int{257, 258, 512, 5000} {
		leaves := slices.Repeat([]api.Leaf{{}}, n)
		expectErrorOfLeaves(t, n, x, leaves, 0, api.ErrLeaves)
		expectErrorOfLeaves(t, n, x, leaves, -1, api.ErrLeaves)
	}
}

// P7.2, P7.3 and P7.4: what has no plan is no error of Check, Fits and Proves.
func TestNone(t *testing.T) {
	for i, x := range []scene{
		example().with(func(x *scene) { x.m = x.m[2:] }),
		example().with(func(x *scene) { x.m = []api.Model{{}} }),
		example().with(func(x *scene) { x.s, x.m = nil, []api.Model{{}} }),
		example().with(func(x *scene) { x.o[1].Wish.Props[2] = 7 }),
	} {
		expectNoPlan(t, i, x)
		expectErrorOfLeaf(t, i, x, api.Leaf{}, api.ErrNone)
		expectErrorOfLeaf(t, i, x, leaf(list(0), nil), api.ErrNone)
		expectErrorOfLeaf(t, i, x, wrongLeaf(), api.ErrLeaves)
		expect(t, i, x, api.OK)
	}
}
