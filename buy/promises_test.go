package buy_test

import (
	"math/rand"
	"slices"
	"testing"

	"cottonpad/api"
)

// P7.1 and P7.6: just the models whose tests cover the wish, by layer 3.
func TestFitsByTheWord(t *testing.T) {
	g := rand.New(rand.NewSource(1))
	yes, no, several := 0, 0, 0
	for range 800 {
		x := someOf(g, sizes()).any(g)
		fits := x.fits(t)
		for i, row := range x.truth(t) {
			var want []int
			for j, is := range row {
				if is {
					want = append(want, j)
					yes++
				} else {
					no++
				}
				if is && len(x.c) > 1 && len(x.m[j].Tests) > 1 {
					several++
				}
			}
			if !slices.Equal(fits[i], want) {
				t.Fatal(i, fits[i], want, x)
			}
		}
	}
	if yes < 1000 || no < 1000 || several < 200 {
		t.Error("too few of one kind", yes, no, several)
	}
}

// someCheap is a scene of any size; large ones are fewer, since they have many plans.
func someCheap(g *rand.Rand) scene {
	return someOf(g, []size{small(), small(), tight(), tight(), poised(), large(), huge()}).any(g)
}

// P7.2, P7.6 and N7: the first one of the cheapest of all plans, each of which has a model that fits for each opening.
func TestCheapestOfAllPlans(t *testing.T) {
	g := rand.New(rand.NewSource(2))
	none, alone, several, together := 0, 0, 0, 0
	for range 1500 {
		x := someCheap(g)
		truth := x.truth(t)
		want, least, alike := x.best(truth)
		plan, coins, any := x.cheapest(t)
		if any != (alike > 0) || coins != least || !slices.Equal(plan, want) {
			t.Fatal(plan, coins, any, want, least, alike, x)
		}
		switch {
		case !any:
			none++
			continue
		case alike == 1:
			alone++
		default:
			several++
		}
		if coins != x.costs(plan) {
			t.Fatal(plan, coins, x)
		}
		for i, j := range plan {
			if !truth[i][j] {
				t.Fatal(plan, truth, x)
			}
		}
		slices.Sort(plan)
		if len(slices.Compact(plan)) < len(x.o) {
			together++
		}
	}
	if none < 50 || alone < 200 || several < 100 || together < 200 {
		t.Error("too few of one kind", none, alone, several, together)
	}
}

// P7.2: the same with as many models and openings as there may be, all of which fit, or most.
func TestCheapestOfMostPlans(t *testing.T) {
	g := rand.New(rand.NewSource(3))
	for range 12 {
		z := someOf(g, []size{tight(), large(), huge()})
		x := z.sized(g, api.MaxModels, api.MaxOpenings)
		for i := range x.m {
			x.m[i].Tests = someIndices(g, api.MaxOpenings, 96)
		}
		want, least, alike := x.best(x.truth(t))
		if plan, coins, any := x.cheapest(t); any != (alike > 0) || coins != least || !slices.Equal(plan, want) {
			t.Fatal(plan, coins, want, least, x)
		}
	}
}

// P7.3, P7.7 and N7: the leaves are those of the chapter, in its order; they prove the cost, and nothing more.
func TestProofByTheWord(t *testing.T) {
	g := rand.New(rand.NewSource(4))
	counts, void, just := map[int]int{}, 0, 0
	for range 1500 {
		x := someOf(g, append(sizes(), poised(), poised())).any(g)
		_, coins, any := x.cheapest(t)
		leaves, proved := x.proof(t)
		if any != proved {
			t.Fatal(any, proved, x)
		}
		if !any {
			continue
		}
		truth := x.truth(t)
		if want := x.proofOf(truth, api.Leaf{}, coins); !slices.EqualFunc(leaves, want, sameLeaf) {
			t.Fatal(leaves, want, x)
		}
		if !isPartition(leaves, len(x.m)) || !x.proves(t, leaves, coins) || x.proves(t, leaves, coins+1) {
			t.Fatal(leaves, coins, x)
		}
		for _, l := range leaves {
			n, any := x.boundOf(truth, l)
			switch {
			case !any:
				void++
			case n == coins:
				just++
			case n < coins:
				t.Fatal(l, n, coins, x)
			}
		}
		counts[min(len(leaves), 40)/10]++
	}
	if counts[0] < 300 || counts[1] < 100 || counts[2] < 20 || counts[3]+counts[4] < 20 || void < 1000 || just < 500 {
		t.Error("too few of one kind", counts, void, just)
	}
}

// P7.4: the bounds of all leaves that there are of few models, and of some of many ones.
func TestBoundByTheWord(t *testing.T) {
	g := rand.New(rand.NewSource(5))
	yes, void := 0, 0
	check := func(x scene, truth [][]bool, l api.Leaf) {
		n, any := x.bound(t, l)
		want, wantAny := x.boundOf(truth, l)
		if n != want || any != wantAny {
			t.Fatal(l, n, any, want, wantAny, x)
		}
		if any {
			yes++
		} else {
			void++
		}
	}
	for range 200 {
		x := someOf(g, sizes()).any(g)
		truth := x.truth(t)
		for range 15 {
			check(x, truth, someLeaf(g, len(x.m)))
		}
	}
	for range 30 {
		x := size{models: 3, openings: 3, fee: 9, price: 9, count: 9}.any(g)
		truth := x.truth(t)
		for _, in := range everything(len(x.m)) {
			for _, out := range everything(len(x.m)) {
				if !slices.ContainsFunc(in.In, func(i int) bool { return slices.Contains(out.In, i) }) {
					check(x, truth, leaf(in.In, out.In))
				}
			}
		}
	}
	if yes < 1000 || void < 500 {
		t.Error("too few of one kind", yes, void)
	}
}

// spoil changes some leaves so that most often sets are had twice, or not at all.
func spoil(g *rand.Rand, leaves []api.Leaf, models int) []api.Leaf {
	i := g.Intn(len(leaves))
	switch g.Intn(4) {
	case 0:
		return slices.Delete(leaves, i, i+1)
	case 1:
		return append(leaves, copyLeaves(leaves[i:i+1])...)
	case 2:
		leaves[i] = someLeaf(g, models)
	case 3:
		leaves = append(leaves, someLeaf(g, models))
	}
	return leaves
}

// P7.5: by the words of the chapter, for leaves of all kinds, and costs about the greatest one that they prove.
func TestProvesByTheWord(t *testing.T) {
	g := rand.New(rand.NewSource(6))
	seen := map[[2]bool]int{}
	void := 0
	for range 1000 {
		x := someOf(g, sizes()).any(g)
		truth := x.truth(t)
		leaves := someTree(g, len(x.m), g.Intn(30))
		if g.Intn(2) == 0 {
			leaves = spoil(g, leaves, len(x.m))
		}
		is, least := isPartition(leaves, len(x.m)), x.provesTo(truth, leaves)
		if least == api.MaxMoney {
			void++
		}
		for _, coins := range []int{0, 1, g.Intn(least + 1), least - 1, least, least + 1, 2*least + 1, api.MaxMoney} {
			if coins < 0 || coins > api.MaxMoney {
				continue
			}
			want := is && coins <= least
			if x.proves(t, leaves, coins) != want {
				t.Fatal(leaves, coins, want, x)
			}
			seen[[2]bool{is, coins <= least}]++
		}
	}
	if len(seen) != 4 || seen[[2]bool{true, true}] < 500 || seen[[2]bool{true, false}] < 500 || seen[[2]bool{false, true}] < 500 || void < 20 {
		t.Error("too few of one kind", seen, void)
	}
}

// P7.5 and P7.7: whatever leaves prove a cost, no plan costs less.
func TestWhateverProves(t *testing.T) {
	g := rand.New(rand.NewSource(7))
	just, less := 0, 0
	for range 800 {
		x := someOf(g, sizes()).planned(t, g)
		truth, least := x.truth(t), x.least(t)
		leaves := someTree(g, len(x.m), someOf(g, []int{0, 3, 10, 50, 300}))
		to := x.provesTo(truth, leaves)
		if to > least || !x.proves(t, leaves, to) || x.proves(t, leaves, least+1) || x.proves(t, leaves, to+1) {
			t.Fatal(leaves, to, least, x)
		}
		if to == least {
			just++
		} else {
			less++
		}
	}
	if just < 100 || less < 100 {
		t.Error("too few of one kind", just, less)
	}
}

// P7.5 and P7.7: one leaf for each set proves the cost of the cheapest plan, and each cost if there is no plan.
func TestOneLeafForEachSet(t *testing.T) {
	g := rand.New(rand.NewSource(8))
	none := 0
	for range 150 {
		x := someOf(g, sizes()).any(g)
		leaves := everything(len(x.m))
		g.Shuffle(len(leaves), func(i, j int) { leaves[i], leaves[j] = leaves[j], leaves[i] })
		_, coins, any := x.cheapest(t)
		if !any {
			none++
			if !x.proves(t, leaves, api.MaxMoney) || !x.proves(t, []api.Leaf{{}}, api.MaxMoney) {
				t.Fatal(leaves, x)
			}
			continue
		}
		if !x.proves(t, leaves, coins) || x.proves(t, leaves, coins+1) {
			t.Fatal(leaves, coins, x)
		}
	}
	if none < 10 {
		t.Error("too few", none)
	}
}

// noDearer checks that a scene costs no more than another one, which it is changed to; it returns whether it costs less.
func noDearer(t *testing.T, x, dearer scene) bool {
	t.Helper()
	_, coins, any := x.cheapest(t)
	_, more, anyMore := dearer.cheapest(t)
	if anyMore && (!any || coins > more) {
		t.Fatal(coins, any, more, x, dearer)
	}
	return any && (!anyMore || coins < more)
}

// P7.8: with a model more nothing costs more.
func TestModelMore(t *testing.T) {
	g := rand.New(rand.NewSource(9))
	less := 0
	for range 800 {
		z := someOf(g, sizes())
		x := z.any(g)
		if len(x.m) == api.MaxModels {
			continue
		}
		more := x.with(func(x *scene) {
			x.m = slices.Insert(x.m, g.Intn(len(x.m)+1), z.model(g, len(x.s), 80))
		})
		if noDearer(t, more, x) {
			less++
		}
	}
	if less < 100 {
		t.Error("too few", less)
	}
}

// P7.8: with an opening more nothing costs less, nor with more doors for one.
func TestOpeningMore(t *testing.T) {
	g := rand.New(rand.NewSource(10))
	dearer, free := 0, 0
	for range 1500 {
		x := someOf(g, sizes()).any(g)
		if len(x.o) == api.MaxOpenings {
			continue
		}
		more := x.with(func(x *scene) {
			o := someOf(g, x.o)
			o.Count = between(g, 1, api.MaxCount)
			x.o = slices.Insert(x.o, g.Intn(len(x.o)+1), o)
		})
		if g.Intn(2) == 0 {
			more = x.with(func(x *scene) {
				o := &x.o[g.Intn(len(x.o))]
				o.Count = between(g, o.Count, api.MaxCount)
			})
		}
		if noDearer(t, x, more) {
			dearer++
		} else {
			free++
		}
	}
	if dearer < 300 || free < 100 {
		t.Error("too few of one kind", dearer, free)
	}
}

// P7.8: a model that is dearer makes nothing cheaper.
func TestDearerModel(t *testing.T) {
	g := rand.New(rand.NewSource(11))
	dearer, same := 0, 0
	for range 1000 {
		x := someOf(g, sizes()).planned(t, g)
		more := x.with(func(x *scene) {
			m := &x.m[g.Intn(len(x.m))]
			if g.Intn(2) == 0 {
				m.Fee = between(g, m.Fee, min(api.MaxCost, 2*m.Fee+9))
			} else {
				m.Price = between(g, m.Price, min(api.MaxCost, 2*m.Price+9))
			}
		})
		if noDearer(t, x, more) {
			dearer++
		} else {
			same++
		}
		// What fits does not depend on it.
		if a, b := x.fits(t), more.fits(t); !slices.EqualFunc(a, b, slices.Equal[[]int]) {
			t.Fatal(a, b, x)
		}
	}
	if dearer < 200 || same < 100 {
		t.Error("too few of one kind", dearer, same)
	}
}

// P7.8: a model with more tests fits no fewer openings, and then nothing costs more.
func TestMoreTests(t *testing.T) {
	g := rand.New(rand.NewSource(12))
	newly, less := 0, 0
	for range 1500 {
		x := someOf(g, sizes()).any(g)
		i := g.Intn(len(x.m))
		more := x.with(func(x *scene) {
			tests := append(x.m[i].Tests, someIndices(g, len(x.s), 60)...)
			slices.Sort(tests)
			x.m[i].Tests = slices.Compact(tests)
		})
		fits, moreFits := x.fits(t), more.fits(t)
		for j := range fits {
			without := slices.DeleteFunc(slices.Clone(moreFits[j]), func(n int) bool { return n == i && !slices.Contains(fits[j], i) })
			if !slices.Equal(without, fits[j]) {
				t.Fatal(j, fits, moreFits, x)
			}
			newly += len(moreFits[j]) - len(fits[j])
		}
		if noDearer(t, more, x) {
			less++
		}
	}
	if newly < 300 || less < 100 {
		t.Error("too few of one kind", newly, less)
	}
}

// P7.9: a leaf's bound is at most what a plan without models of Out costs, with the Fees of models of In that it has not; the one without In and Out has the least bound.
func TestBoundOfPlans(t *testing.T) {
	g := rand.New(rand.NewSource(13))
	just, less, void := 0, 0, 0
	for range 600 {
		x := someOf(g, []size{small(), small(), tight(), poised(), large()}).any(g)
		truth, l := x.truth(t), someLeaf(g, len(x.m))
		bound, any := x.bound(t, l)
		least, anyLeast := x.bound(t, api.Leaf{})
		if any && (!anyLeast || least > bound) {
			t.Fatal(l, bound, least, x)
		}
		if !any {
			void++
		}
		reached := false
		plans(truth, nil, func(plan []int) {
			if slices.ContainsFunc(plan, func(i int) bool { return slices.Contains(l.Out, i) }) {
				return
			}
			coins := x.costs(plan)
			for _, i := range l.In {
				if !slices.Contains(plan, i) {
					coins += x.m[i].Fee
				}
			}
			if !any || bound > coins {
				t.Fatal(l, bound, any, plan, coins, x)
			}
			reached = reached || bound == coins
		})
		if any && reached {
			just++
		} else if any {
			less++
		}
	}
	if just < 100 || less < 50 || void < 50 {
		t.Error("too few of one kind", just, less, void)
	}
}
