package buy_test

import (
	"slices"
	"testing"

	"cottonpad/api"
	"cottonpad/buy"
)

func expectFits(t *testing.T, name any, x scene, want ...[]int) {
	t.Helper()
	if l := x.fits(t); !slices.EqualFunc(l, want, slices.Equal[[]int]) {
		t.Error(name, "Fits", l, want)
	}
}

func expectCheapest(t *testing.T, name any, x scene, coins int, plan ...int) {
	t.Helper()
	if l, n, any := x.cheapest(t); !any || n != coins || !slices.Equal(l, plan) {
		t.Error(name, "Cheapest", l, n, plan, coins)
	}
}

func expectNoPlan(t *testing.T, name any, x scene) {
	t.Helper()
	if l, n, any := x.cheapest(t); any {
		t.Error(name, "Cheapest", l, n)
	}
	if l, any := x.proof(t); any {
		t.Error(name, "Proof", l)
	}
}

func expectBound(t *testing.T, name any, x scene, l api.Leaf, coins int) {
	t.Helper()
	if n, any := x.bound(t, l); !any || n != coins {
		t.Error(name, "Bound", l, n, any, coins)
	}
}

func expectVoid(t *testing.T, name any, x scene, l api.Leaf) {
	t.Helper()
	if n, any := x.bound(t, l); any {
		t.Error(name, "Bound", l, n)
	}
}

func expectProof(t *testing.T, name any, x scene, want ...api.Leaf) {
	t.Helper()
	if l, any := x.proof(t); !any || !slices.EqualFunc(l, want, sameLeaf) {
		t.Error(name, "Proof", l, want)
	}
}

func expectProves(t *testing.T, name any, x scene, coins int, want bool, leaves ...api.Leaf) {
	t.Helper()
	if x.proves(t, leaves, coins) != want {
		t.Error(name, "Proves", leaves, coins, !want)
	}
}

// TestExamples: those of the chapter, and the one of DOC.md (P7.1 to P7.5).
func TestExamples(t *testing.T) {
	x := example()
	expectFits(t, "example", x, list(0, 1), list(0, 1, 2))
	expectCheapest(t, "example", x, 230, 1, 2)
	expectBound(t, "example", x, api.Leaf{}, 150)
	expectBound(t, "example", x, leaf(list(0), nil), 250)
	expectBound(t, "example", x, leaf(nil, list(0)), 210)
	leaves := []api.Leaf{leaf(list(0), nil), leaf(list(1, 2), list(0)), leaf(list(1), list(0, 2)), leaf(nil, list(0, 1))}
	expectProof(t, "example", x, leaves...)
	expectProves(t, "example", x, 230, true, leaves...)
	expectProves(t, "example", x, 231, false, leaves...)
	// What the chapter says of it in brackets.
	expectCheapest(t, "0 alone", x.with(func(x *scene) { x.m = x.m[:1] }), 310, 0, 0)
	expectCheapest(t, "1 alone", x.with(func(x *scene) { x.m = x.m[1:2] }), 315, 0, 0)
	expectBound(t, "example", x, leaf(list(1), list(0)), 210)
	expectBound(t, "example", x, leaf(list(1, 2), list(0)), 230)
	expectBound(t, "example", x, leaf(list(1), list(0, 2)), 315)
	expectVoid(t, "example", x, leaf(nil, list(0, 1)))
}

// TestOne: one model and one opening (P7.1 to P7.5).
func TestOne(t *testing.T) {
	x := table([]cost{{7, 5}}, "x").counting(3)
	expectFits(t, "one", x, list(0))
	expectCheapest(t, "one", x, 22, 0)
	expectBound(t, "one", x, api.Leaf{}, 15)
	expectBound(t, "one", x, leaf(list(0), nil), 22)
	expectVoid(t, "one", x, leaf(nil, list(0)))
	expectProof(t, "one", x, leaf(list(0), nil), leaf(nil, list(0)))
	// Without a Fee the first bound is what it costs.
	x.m[0].Fee = 0
	expectCheapest(t, "no fee", x, 15, 0)
	expectProof(t, "no fee", x, api.Leaf{})
	expectProves(t, "no fee", x, 15, true, api.Leaf{})
	expectProves(t, "no fee", x, 16, false, api.Leaf{})
}

// TestUnfit: an opening that no model fits, a model that fits no opening, and one without Tests (P7.1, P7.2, P7.3, P7.4).
func TestUnfit(t *testing.T) {
	x := table([]cost{{1, 2}, {0, 0}, {3, 4}}, "x.x", "...", "x..")
	expectFits(t, "unfit", x, list(0, 2), nil, list(0))
	expectNoPlan(t, "unfit", x)
	expectVoid(t, "unfit", x, api.Leaf{})
	expectVoid(t, "unfit", x, leaf(list(0, 1, 2), nil))
	expectProves(t, "unfit", x, api.MaxMoney, true, api.Leaf{})
	// The model 1 is given away, but fits nothing.
	x.o = slices.Delete(x.o, 1, 2)
	expectFits(t, "useless", x, list(0, 2), list(0))
	expectCheapest(t, "useless", x, 5, 0, 0)
	expectBound(t, "useless", x, leaf(list(1), nil), 4)
	expectBound(t, "useless", x, leaf(nil, list(1)), 4)
	// With no specimens at all, each model is one without Tests.
	x.s = nil
	for i := range x.m {
		x.m[i].Tests = nil
	}
	expectFits(t, "no specimens", x, nil, nil)
	expectNoPlan(t, "no specimens", x)
	// The first, the last, or one between.
	for i := range 3 {
		rows := []string{"xx", "xx", "xx"}
		rows[i] = ".."
		expectNoPlan(t, i, table([]cost{{0, 0}, {0, 0}}, rows...))
	}
}

// TestAlike: of several plans that cost the same the first one (P7.2).
func TestAlike(t *testing.T) {
	same := []cost{{0, 5}, {0, 5}, {0, 5}}
	expectCheapest(t, "all", table(same, "xxx", "xxx"), 10, 0, 0)
	expectCheapest(t, "some", table(same, ".xx", "x.x"), 10, 1, 0)
	// With a Fee a model pays only if several openings take it: 4 + 3 + 3 is as much as 5 + 5.
	expectCheapest(t, "fee later", table([]cost{{0, 5}, {4, 3}}, "xx", "xx"), 10, 0, 0)
	expectCheapest(t, "fee first", table([]cost{{4, 3}, {0, 5}}, "xx", "xx"), 10, 0, 0)
	expectCheapest(t, "fee less", table([]cost{{0, 5}, {3, 3}}, "xx", "xx"), 9, 1, 1)
	// The first index that differs counts, not the others: 0 2 is before 1 0.
	expectCheapest(t, "order", table([]cost{{0, 3}, {0, 3}, {0, 3}}, "xx.", "..x"), 6, 0, 2)
	expectCheapest(t, "order", table([]cost{{5, 0}, {0, 2}, {0, 3}}, "xx.", "x.x"), 5, 0, 0)
	expectCheapest(t, "order", table([]cost{{5, 0}, {0, 2}, {0, 2}}, "xx.", "x.x"), 4, 1, 2)
	expectCheapest(t, "free", table([]cost{{0, 0}, {0, 0}}, ".x", "xx", "xx"), 0, 1, 0, 0)
}

// TestTogether: openings that take one model together pay its Fee once (P7.2).
func TestTogether(t *testing.T) {
	x := table([]cost{{100, 1}, {0, 40}, {0, 50}}, "xx.", "x.x", "xxx").counting(1, 1, 1)
	expectCheapest(t, "all", x, 103, 0, 0, 0)
	x = x.with(func(x *scene) { x.o = x.o[:2] })
	expectCheapest(t, "two", x, 90, 1, 2)
	expectCheapest(t, "two of more", x.counting(1, 2), 103, 0, 0)
	x = x.with(func(x *scene) { x.o = x.o[:1] })
	expectCheapest(t, "one", x.counting(2), 80, 1)
	expectCheapest(t, "one of many", x.counting(3), 103, 0)
	// A plan may take a dearer model that is there anyway: its Fee is paid.
	y := table([]cost{{10, 6}, {7, 1}}, "x.", "xx")
	expectCheapest(t, "anyway", y, 22, 0, 0)
	expectCheapest(t, "as much", y.counting(1, 2), 10+6+7+2, 0, 1)
}

// TestZero: a Fee or a Price of 0, and a cost of 0 (P7.2, P7.3, P7.4, P7.5).
func TestZero(t *testing.T) {
	expectCheapest(t, "price 0", table([]cost{{9, 0}, {0, 1}}, "xx").counting(9), 9, 0)
	expectCheapest(t, "price 0", table([]cost{{9, 0}, {0, 1}}, "xx").counting(8), 8, 1)
	expectCheapest(t, "price 0", table([]cost{{9, 0}, {0, 1}}, "xx").counting(10), 9, 0)
	x := table([]cost{{0, 0}, {3, 0}}, "xx", "xx").counting(100, 100)
	expectCheapest(t, "0", x, 0, 0, 0)
	expectProof(t, "0", x, api.Leaf{})
	expectBound(t, "0", x, api.Leaf{}, 0)
	expectBound(t, "0", x, leaf(list(1), list(0)), 3)
	expectProves(t, "0", x, 0, true, api.Leaf{})
	expectProves(t, "0", x, 1, false, api.Leaf{})
	// A cost of 0 is proved by any leaves that have each set once, and by no others.
	x = example()
	expectProves(t, "0", x, 0, true, api.Leaf{})
	expectProves(t, "0", x, 0, true, leaf(list(2), nil), leaf(nil, list(2)))
	expectProves(t, "0", x, 0, false, leaf(list(2), nil))
	expectProves(t, "0", x, 0, false)
}

// TestBounds: Fees of In count, also if nothing is bought of them, and prices of all that is not Out (P7.4).
func TestBounds(t *testing.T) {
	x := table([]cost{{100, 7}, {20, 9}, {3, 11}, {1000, 1}}, "xxx.", ".xx.").counting(10, 1)
	for _, b := range []struct {
		in, out []int
		want    int // 0 if it is void
	}{
		{nil, nil, 79}, {list(), list(), 79}, {list(3), nil, 1079}, {nil, list(3), 79}, {list(0), nil, 179}, {list(0, 1, 2), nil, 202}, {nil, list(0), 99}, {nil, list(1), 81}, {nil, list(0, 1), 121}, {nil, list(1, 2), 0}, {list(0, 3), list(1, 2), 0}, {list(0), list(2), 179}, {list(1), list(0), 119}, {list(0, 1, 2, 3), nil, 1202}, {nil, list(0, 1, 2, 3), 0}, {list(2), list(0, 1, 3), 124},
	} {
		if b.want == 0 {
			expectVoid(t, b, x, leaf(b.in, b.out))
		} else {
			expectBound(t, b, x, leaf(b.in, b.out), b.want)
		}
	}
}

// TestJust: a bound that is just the cost is enough, one less is not (P7.3, P7.5).
func TestJust(t *testing.T) {
	// The first bound is 10: with the model 1 it costs 10 and its Fee, with the model 0 always 12.
	every := []api.Leaf{leaf(list(0, 1), nil), leaf(list(0), list(1)), leaf(list(1), list(0)), leaf(nil, list(0, 1))}
	for fee := range 4 {
		x := table([]cost{{0, 12}, {fee, 10}}, "xx")
		want, least := every, min(12, 10+fee)
		if fee == 0 {
			want = []api.Leaf{{}}
		}
		if n := x.least(t); n != least {
			t.Error(fee, n)
		}
		expectProof(t, fee, x, want...)
		expectProves(t, fee, x, least, true, want...)
		expectProves(t, fee, x, least+1, false, want...)
		expectProves(t, fee, x, 10, true, api.Leaf{})
		expectProves(t, fee, x, 11, false, api.Leaf{})
	}
	// A Fee of a model of In is enough by itself.
	x := table([]cost{{2, 12}, {1, 10}}, "xx")
	expectProof(t, "fee", x, leaf(list(0), nil), leaf(list(1), list(0)), leaf(nil, list(0, 1)))
	x.m[0].Fee = 1
	expectProof(t, "fee", x, leaf(list(0), nil), leaf(list(1), list(0)), leaf(nil, list(0, 1)))
	x.m[0].Fee = 0
	expectProof(t, "fee", x, every...)
}

// TestSets: each set of models has to be had by one leaf, and by no other one (P7.5).
func TestSets(t *testing.T) {
	x := table([]cost{{1, 1}, {1, 1}, {1, 1}}, "xxx", "xxx")
	for i, b := range []struct {
		leaves []api.Leaf
		want   bool
	}{
		{nil, false},
		{[]api.Leaf{}, false},
		{[]api.Leaf{{}}, true},
		{[]api.Leaf{{}, {}}, false},
		{[]api.Leaf{{}, leaf(list(0, 1, 2), nil)}, false},
		{[]api.Leaf{leaf(list(0), nil)}, false},
		{[]api.Leaf{leaf(list(0), nil), leaf(nil, list(0))}, true},
		{[]api.Leaf{leaf(nil, list(0)), leaf(list(0), nil)}, true},
		{[]api.Leaf{leaf(list(0), nil), leaf(nil, list(1))}, false},
		{[]api.Leaf{leaf(list(0), nil), leaf(nil, list(0)), leaf(list(0), nil)}, false},
		{[]api.Leaf{leaf(list(0), nil), leaf(list(1), list(0)), leaf(nil, list(0, 1))}, true},
		{[]api.Leaf{leaf(list(0), nil), leaf(list(1), list(0)), leaf(list(2), list(0, 1))}, false},
		{[]api.Leaf{leaf(list(0), nil), leaf(list(1), list(0)), leaf(nil, list(0, 1, 2))}, false},
		{[]api.Leaf{leaf(list(0), nil), leaf(list(1), nil), leaf(nil, list(0, 1))}, false},
		// No model splits these, and yet each set is had once.
		{[]api.Leaf{leaf(list(0), list(1)), leaf(list(1), list(2)), leaf(list(2), list(0)), leaf(list(0, 1, 2), nil), leaf(nil, list(0, 1, 2))}, true},
		{[]api.Leaf{leaf(list(0), list(1)), leaf(list(1), list(2)), leaf(list(2), list(0)), leaf(list(0, 1, 2), nil)}, false},
		{[]api.Leaf{leaf(list(0), list(1)), leaf(list(1), list(2)), leaf(list(2), list(0)), leaf(nil, list(0, 1, 2))}, false},
		{[]api.Leaf{leaf(list(0), list(1)), leaf(list(1), list(2)), leaf(list(2), list(0)), leaf(list(0, 1), nil), leaf(nil, list(0, 1, 2))}, false},
	} {
		expectProves(t, i, x, 0, b.want, b.leaves...)
		expectProves(t, i, x, 2, b.want, b.leaves...)
	}
}

// TestVoidLeaves: a leaf that is void proves each cost for its sets (P7.5).
func TestVoidLeaves(t *testing.T) {
	x := table([]cost{{6, 1}, {0, 3}}, "xx", "x.")
	expectCheapest(t, "void", x, 8, 0, 0)
	leaves := []api.Leaf{leaf(list(0), nil), leaf(nil, list(0))}
	expectProof(t, "void", x, leaves...)
	expectVoid(t, "void", x, leaves[1])
	expectProves(t, "void", x, 8, true, leaves...)
	expectProves(t, "void", x, 9, false, leaves...)
	expectProves(t, "void", x, 8, false, leaves[1])
	// With the other model the first leaf's bound is greater, but nothing proves more than what a plan costs.
	expectProves(t, "void", x.with(func(x *scene) { x.m[0].Fee = 100 }), 102, true, leaves...)
	expectProves(t, "void", x.with(func(x *scene) { x.m[0].Fee = 100 }), 103, false, leaves...)
}

// everything are leaves of all models, one for each set.
func everything(models int) []api.Leaf {
	var leaves []api.Leaf
	for _, set := range sets(models) {
		var l api.Leaf
		for i, is := range set {
			if is {
				l.In = append(l.In, i)
			} else {
				l.Out = append(l.Out, i)
			}
		}
		leaves = append(leaves, l)
	}
	return leaves
}

// TestGreatest: as many models, openings, specimens and leaves as there may be, with the greatest numbers (P7.2 to P7.5, R5).
func TestGreatest(t *testing.T) {
	row, costs := "xxxxxxxx", slices.Repeat([]cost{{1000000, 1000000}}, 8)
	x := table(costs, row, row, row, row, row, row).counting(100, 100, 100, 100, 100, 100)
	expectFits(t, "alike", x, slices.Repeat([][]int{list(0, 1, 2, 3, 4, 5, 6, 7)}, 6)...)
	expectCheapest(t, "alike", x, 601000000, 0, 0, 0, 0, 0, 0)
	expectBound(t, "alike", x, api.Leaf{}, 600000000)
	expectBound(t, "alike", x, leaf(list(0, 1, 2, 3, 4, 5, 6, 7), nil), 608000000)
	leaves := everything(8)
	if len(leaves) != api.MaxLeaves {
		t.Fatal(len(leaves))
	}
	expectProves(t, "alike", x, 601000000, true, leaves...)
	expectProves(t, "alike", x, 601000001, false, leaves...)
	expectProves(t, "alike", x, 0, false, leaves[1:]...)
	expectProves(t, "alike", x, 0, false, leaves[:255]...)
	leaves[7] = leaves[8]
	expectProves(t, "alike", x, 0, false, leaves...)
	// Each leaf is without the models before one, and with this one; the last one is without any.
	var want []api.Leaf
	for i := range 8 {
		want = append(want, leaf(list(i), list(0, 1, 2, 3, 4, 5, 6, 7)[:i]))
	}
	expectProof(t, "alike", x, append(want, leaf(nil, list(0, 1, 2, 3, 4, 5, 6, 7)))...)
	// The last plan of all is the cheapest one.
	for i := range x.m {
		x.m[i].Fee, x.m[i].Price = 0, 1000000-i
	}
	expectCheapest(t, "last", x, 600*999993, 7, 7, 7, 7, 7, 7)
	expectProof(t, "last", x, api.Leaf{})
}

// TestSpecimens: what fits is asked of all specimens of a model together, and of their classes (P7.1).
func TestSpecimens(t *testing.T) {
	x := example()
	x.m = []api.Model{model(0, 1, 0, 1), model(0, 1, 0), model(0, 1, 1), model(0, 1), model(0, 1, 0, 1, 2), model(0, 1, 0, 2)}
	expectFits(t, "sets", x, list(0, 4), list(0, 2, 4))
	// With 5 minutes more the clause 3 asks for a class of 25.
	expectFits(t, "minutes", x.with(func(x *scene) { x.o[0].Wish.Minutes = 16 }), nil, list(0, 2, 4))
	// For I the test of the specimen 0 has just the class 5.
	expectFits(t, "letter", x.with(func(x *scene) { x.o[0].Wish.Letter = api.LetterI }), nil, list(0, 2, 4))
	expectFits(t, "letter", x.with(func(x *scene) { x.o[0].Wish.Letter = api.LetterR }), list(0, 4), list(0, 2, 4))
	expectFits(t, "value", x.with(func(x *scene) { x.o[1].Wish.Props[1] = 1201 }), list(0, 4), nil)
	// A furnace that left its limits in the minute 10 spoils the specimen 1.
	expectFits(t, "spoiled", x.with(func(x *scene) { x.s[1].Test.Run = furnaceOf(25, 10) }), nil, nil)
}

// TestFitsOfAll: as many specimens as there may be, each of another opening and model (P7.1).
func TestFitsOfAll(t *testing.T) {
	x := table(slices.Repeat([]cost{{1, 1}}, 8), ".x......", "..x.....", "...x....", "x.......", "....x..x", "......x.")
	expectFits(t, "one each", x, list(1), list(2), list(3), list(0), list(4, 7), list(6))
	expectCheapest(t, "one each", x, 12, 1, 2, 3, 0, 4, 6)
	if l, e := buy.Fits(x.c, x.s, x.m[:1], x.o); e != api.OK || !slices.EqualFunc(l, [][]int{nil, nil, nil, {0}, nil, nil}, slices.Equal[[]int]) {
		t.Error(l, e)
	}
}
