package buy_test

import (
	"math/rand"
	"slices"
	"testing"

	"cottonpad/api"
	"cottonpad/buy"
	"cottonpad/extend"
)

func span(lo, hi int) api.Span { return api.Span{Lo: lo, Hi: hi} }

func note(at int, kind uint8, value int) api.Note { return api.Note{At: at, Kind: kind, Value: value} }

// all are some props, and zeros for those that are not given.
func all(props ...int) []int {
	return append(slices.Clone(props), make([]int, api.MaxProperties-len(props))...)
}

// furnaceOf is a run of so many rows whose couple is exact, and on its curve (of 100 degrees) but in the minutes that are given: there it is 10 degrees too hot.
func furnaceOf(rows int, hot ...int) api.Run {
	r := api.Run{
		Curve:   []api.Point{{Degree: 100}, {Minute: 600, Degree: 100}},
		Couples: []api.Couple{{Id: 1}},
	}
	for minute := 1; minute <= rows; minute++ {
		degree := 100
		if slices.Contains(hot, minute) {
			degree = 110
		}
		r.Rows = append(r.Rows, api.Row{Degrees: []int{degree}})
	}
	return r
}

// strict are rules that let a couple differ by 5 degrees.
func strict() api.Rules {
	return api.Rules{Single: 5, SingleFrom: 1, Press: span(-100, 100), PressFrom: 1}
}

// tested is a test with a class for all letters.
func tested(minutes int) api.Test {
	t := api.Test{Run: furnaceOf(minutes), Rules: strict(), End: 60 * minutes}
	for kind := api.CritBend; kind <= api.CritMean; kind++ {
		t.Notes = append(t.Notes, note(60*minutes, uint8(kind), 0))
	}
	return t
}

// exampleTest is the test of layer 2's examples.
func exampleTest() api.Test {
	t := api.Test{
		Id: 3, Run: furnaceOf(25, 22), Rules: strict(), Clock: span(0, 30), End: 1500,
		Limits: [api.Criteria]int{100, 10, 6, 0, 180, 140},
		Notes: []api.Note{
			note(600, api.CritPoint, 150), note(900, api.CritPoint, 175), note(1000, api.CritCotton, 0), note(1200, api.CritPoint, 195), note(1260, api.CritCotton, 1),
			note(1500, api.CritBend, 60), note(1500, api.CritSpeed, 5), note(1500, api.CritGap, 4), note(1500, api.CritMean, 100),
		},
	}
	t.Run.Couples[0].Error = span(0, 5)
	for i := range t.Notes {
		if t.Notes[i].Kind == api.CritPoint {
			t.Notes[i].Off = span(-10, 10)
		}
	}
	return t
}

// exampleOther is the test B of layer 3's examples.
func exampleOther() api.Test {
	t := exampleTest()
	t.Clock = span(0, 0)
	t.Notes = slices.DeleteFunc(t.Notes, func(n api.Note) bool { return n.Kind == api.CritPoint || n.Kind == api.CritCotton })
	t.Notes = append(t.Notes, note(1500, api.CritPoint, 150), note(1500, api.CritCotton, 0))
	return t
}

// scene is clauses, specimens, models and openings.
type scene struct {
	c []api.Clause
	s []api.Specimen
	m []api.Model
	o []api.Opening
}

func model(fee, price int, tests ...int) api.Model {
	return api.Model{Fee: fee, Price: price, Tests: tests}
}

func opening(count, minutes int, props ...int) api.Opening {
	return api.Opening{Wish: api.Wish{Letter: api.LetterE, Minutes: minutes, Props: all(props...)}, Count: count}
}

func leaf(in, out []int) api.Leaf { return api.Leaf{In: in, Out: out} }

func list(numbers ...int) []int { return numbers }

// example is that of the chapter's examples.
func example() scene {
	return scene{
		c: []api.Clause{
			{Property: 0, Kind: api.ClauseUpTo, By: 100},
			{Property: 1, Kind: api.ClauseUpTo},
			{Property: 2, Kind: api.ClauseSame},
			{Property: 0, Kind: api.ClauseFrom, By: 500, Over: 5},
		},
		s: []api.Specimen{
			{Test: exampleTest(), Props: all(2000, 1000, 1)},
			{Test: exampleOther(), Props: all(1500, 1200, 1)},
			{Test: exampleTest(), Props: all(2100, 900, 2)},
		},
		m: []api.Model{model(100, 30, 0, 1), model(0, 45, 1, 2), model(20, 10, 1)},
		o: []api.Opening{opening(4, 15, 2050, 1100, 1), opening(3, 15, 1600, 1200, 1)},
	}
}

// cost is the Fee and the Price of a model.
type cost struct{ fee, price int }

// table is a scene with an opening (of Count 1) for each row, and a model for each cost; a model fits an opening if there is an x in the row.
func table(costs []cost, rows ...string) scene {
	x := scene{c: []api.Clause{{Property: 0, Kind: api.ClauseSame}}}
	for i := range rows {
		x.s = append(x.s, api.Specimen{Test: tested(5), Props: all(i)})
		x.o = append(x.o, opening(1, 5, i))
	}
	for i, c := range costs {
		m := model(c.fee, c.price)
		for j, row := range rows {
			if row[i] == 'x' {
				m.Tests = append(m.Tests, j)
			}
		}
		x.m = append(x.m, m)
	}
	return x
}

// counting returns a copy with other counts.
func (x scene) counting(counts ...int) scene {
	return x.with(func(x *scene) {
		for i, n := range counts {
			x.o[i].Count = n
		}
	})
}

func copyTest(t api.Test) api.Test {
	r := &t.Run
	r.Curve, r.Couples, r.Rows = slices.Clone(r.Curve), slices.Clone(r.Couples), slices.Clone(r.Rows)
	for i := range r.Rows {
		r.Rows[i].Degrees = slices.Clone(r.Rows[i].Degrees)
	}
	t.Rules.Steps = slices.Clone(t.Rules.Steps)
	t.Notes = slices.Clone(t.Notes)
	return t
}

func (x scene) copied() scene {
	x.c, x.s, x.m, x.o = slices.Clone(x.c), slices.Clone(x.s), slices.Clone(x.m), slices.Clone(x.o)
	for i, s := range x.s {
		x.s[i] = api.Specimen{Test: copyTest(s.Test), Props: slices.Clone(s.Props)}
	}
	for i := range x.m {
		x.m[i].Tests = slices.Clone(x.m[i].Tests)
	}
	for i := range x.o {
		x.o[i].Wish.Props = slices.Clone(x.o[i].Wish.Props)
	}
	return x
}

// with returns a copy with a change.
func (x scene) with(change func(x *scene)) scene {
	x = x.copied()
	change(&x)
	return x
}

func copyLeaves(leaves []api.Leaf) []api.Leaf {
	var copies []api.Leaf
	for _, l := range leaves {
		copies = append(copies, leaf(slices.Clone(l.In), slices.Clone(l.Out)))
	}
	return copies
}

func sameLeaf(a, b api.Leaf) bool { return slices.Equal(a.In, b.In) && slices.Equal(a.Out, b.Out) }

func (x scene) fits(t *testing.T) [][]int {
	t.Helper()
	l, e := buy.Fits(x.c, x.s, x.m, x.o)
	if e != api.OK || len(l) != len(x.o) {
		t.Fatal("Fits", l, e, x)
	}
	return l
}

// cheapest is what Cheapest tells, with false for ErrNone.
func (x scene) cheapest(t *testing.T) ([]int, int, bool) {
	t.Helper()
	plan, coins, e := buy.Cheapest(x.c, x.s, x.m, x.o)
	if e != api.OK && e != api.ErrNone || (e == api.OK) != (len(plan) == len(x.o)) || e != api.OK && len(plan)+coins != 0 {
		t.Fatal("Cheapest", plan, coins, e, x)
	}
	return plan, coins, e == api.OK
}

// least is what the cheapest plan costs, which there has to be.
func (x scene) least(t *testing.T) int {
	t.Helper()
	_, coins, any := x.cheapest(t)
	if !any {
		t.Fatal("no plan", x)
	}
	return coins
}

// proof is what Proof tells, with false for ErrNone.
func (x scene) proof(t *testing.T) ([]api.Leaf, bool) {
	t.Helper()
	l, e := buy.Proof(x.c, x.s, x.m, x.o)
	if e != api.OK && e != api.ErrNone || (e == api.OK) != (len(l) > 0) {
		t.Fatal("Proof", l, e, x)
	}
	return l, e == api.OK
}

// bound is what Bound tells, with false for ErrNone.
func (x scene) bound(t *testing.T, l api.Leaf) (int, bool) {
	t.Helper()
	coins, e := buy.Bound(x.c, x.s, x.m, x.o, l)
	if e != api.OK && e != api.ErrNone || e != api.OK && coins != 0 {
		t.Fatal("Bound", l, coins, e, x)
	}
	return coins, e == api.OK
}

func (x scene) proves(t *testing.T, leaves []api.Leaf, coins int) bool {
	t.Helper()
	known, e := buy.Proves(x.c, x.s, x.m, x.o, leaves, coins)
	if e != api.OK || known != api.KnownYes && known != api.KnownNo {
		t.Fatal("Proves", known, leaves, coins, e, x)
	}
	return known == api.KnownYes
}

// truth is whether a model fits an opening, for all openings and models, by layer 3.
func (x scene) truth(t *testing.T) [][]bool {
	t.Helper()
	rows := make([][]bool, len(x.o))
	for i, o := range x.o {
		for _, m := range x.m {
			n, e := extend.Lacks(x.c, x.s, o.Wish, m.Tests)
			if e != api.OK {
				t.Fatal(e, x)
			}
			rows[i] = append(rows[i], n == -1)
		}
	}
	return rows
}

// plans calls a function with all plans, in their order.
func plans(truth [][]bool, begun []int, see func(plan []int)) {
	if len(begun) == len(truth) {
		see(begun)
		return
	}
	for i, fits := range truth[len(begun)] {
		if fits {
			plans(truth, append(begun, i), see)
		}
	}
}

// costs is what a plan costs, by the words of the chapter.
func (x scene) costs(plan []int) int {
	coins := 0
	for i, m := range x.m {
		if slices.Contains(plan, i) {
			coins += m.Fee
		}
	}
	for i, o := range x.o {
		coins += o.Count * x.m[plan[i]].Price
	}
	return coins
}

// best is the first of the plans that cost least, what it costs, and how many plans cost as much.
func (x scene) best(truth [][]bool) (best []int, coins, alike int) {
	plans(truth, nil, func(plan []int) {
		n := x.costs(plan)
		switch {
		case alike == 0 || n < coins:
			best, coins, alike = slices.Clone(plan), n, 1
		case n == coins:
			alike++
		}
	})
	return best, coins, alike
}

// boundOf is the bound of a leaf by the words of the chapter, with false if it is void.
func (x scene) boundOf(truth [][]bool, l api.Leaf) (int, bool) {
	coins := 0
	for _, i := range l.In {
		coins += x.m[i].Fee
	}
	for i, o := range x.o {
		var prices []int
		for j, fits := range truth[i] {
			if fits && !slices.Contains(l.Out, j) {
				prices = append(prices, x.m[j].Price)
			}
		}
		if len(prices) == 0 {
			return 0, false
		}
		slices.Sort(prices)
		coins += o.Count * prices[0]
	}
	return coins, true
}

// proofOf are the leaves of the proof of a cost that come of a leaf, by the words of the chapter.
func (x scene) proofOf(truth [][]bool, l api.Leaf, coins int) []api.Leaf {
	if n, any := x.boundOf(truth, l); !any || n >= coins {
		return []api.Leaf{l}
	}
	next := 0
	for slices.Contains(l.In, next) || slices.Contains(l.Out, next) {
		next++
	}
	in := leaf(append(slices.Clone(l.In), next), l.Out)
	out := leaf(l.In, append(slices.Clone(l.Out), next))
	return append(x.proofOf(truth, in, coins), x.proofOf(truth, out, coins)...)
}

// sets are all sets of so many models, as lists of whether a model is in it.
func sets(models int) [][]bool {
	if models == 0 {
		return [][]bool{nil}
	}
	var lists [][]bool
	for _, s := range sets(models - 1) {
		lists = append(lists, append(slices.Clone(s), false), append(slices.Clone(s), true))
	}
	return lists
}

// hasSet is whether a leaf has a set of models.
func hasSet(l api.Leaf, set []bool) bool {
	for i, is := range set {
		if slices.Contains(l.In, i) && !is || slices.Contains(l.Out, i) && is {
			return false
		}
	}
	return true
}

// isPartition is whether each set of so many models is had by just one leaf.
func isPartition(leaves []api.Leaf, models int) bool {
	for _, set := range sets(models) {
		times := 0
		for _, l := range leaves {
			if hasSet(l, set) {
				times++
			}
		}
		if times != 1 {
			return false
		}
	}
	return true
}

// provesTo is the greatest cost that leaves prove if each set is had by one of them: that of MaxMoney if all of them are void.
func (x scene) provesTo(truth [][]bool, leaves []api.Leaf) int {
	least := api.MaxMoney
	for _, l := range leaves {
		if n, any := x.boundOf(truth, l); any {
			least = min(least, n)
		}
	}
	return least
}

func between(g *rand.Rand, lo, hi int) int { return lo + g.Intn(hi-lo+1) }

func someOf[T any](g *rand.Rand, list []T) T { return list[g.Intn(len(list))] }

// someIndices are some of so many indices, in increasing order, each one with the same chance.
func someIndices(g *rand.Rand, count, percent int) []int {
	var list []int
	for i := range count {
		if g.Intn(100) < percent {
			list = append(list, i)
		}
	}
	return list
}

// size is how great scenes are.
type size struct{ models, openings, fee, price, count int }

func small() size { return size{models: 4, openings: 3, fee: 30, price: 9, count: 4} }
func tight() size { return size{models: 6, openings: 4, fee: 2, price: 1, count: 2} }

// poised are scenes in which fees are about as much as prices, so that proofs are long.
func poised() size { return size{models: api.MaxModels, openings: 4, fee: 9, price: 9, count: 2} }
func large() size {
	return size{models: api.MaxModels, openings: api.MaxOpenings, fee: 500, price: 90, count: 20}
}
func huge() size {
	return size{models: api.MaxModels, openings: api.MaxOpenings, fee: api.MaxCost, price: api.MaxCost, count: api.MaxCount}
}

func sizes() []size { return []size{small(), tight(), poised(), large(), huge()} }

func (z size) model(g *rand.Rand, specimens, percent int) api.Model {
	m := model(g.Intn(z.fee+1), g.Intn(z.price+1), someIndices(g, specimens, percent)...)
	if g.Intn(5) == 0 {
		m.Fee = 0
	}
	if g.Intn(10) == 0 {
		m.Price = 0
	}
	return m
}

// some is a scene in which openings ask for one specimen each.
func (z size) some(g *rand.Rand) scene {
	return z.sized(g, between(g, 1, z.models), between(g, 1, z.openings))
}

func (z size) sized(g *rand.Rand, models, openings int) scene {
	rows := slices.Repeat([]string{""}, openings)
	x := table(nil, rows...)
	percent := someOf(g, []int{30, 50, 70, 90})
	for range models {
		x.m = append(x.m, z.model(g, openings, percent))
	}
	for i := range x.o {
		x.o[i].Count = between(g, 1, z.count)
	}
	return x
}

// someClauses are some with few values, so that some wishes are covered.
func someClauses(g *rand.Rand) []api.Clause {
	var list []api.Clause
	for range between(g, 1, 4) {
		c := api.Clause{Property: g.Intn(2), Kind: uint8(between(g, api.ClauseSame, api.ClauseFrom))}
		if c.Kind != api.ClauseSame {
			c.By = g.Intn(3)
		}
		if g.Intn(4) == 0 {
			c.Over = between(g, 1, 10)
		}
		list = append(list, c)
	}
	return list
}

// mixed is a scene in which several specimens have to prove several clauses.
func (z size) mixed(g *rand.Rand) scene {
	x := scene{c: someClauses(g)}
	for range between(g, 2, api.MaxSpecimens) {
		x.s = append(x.s, api.Specimen{Test: tested(someOf(g, []int{5, 10, 20, 20})), Props: all(g.Intn(4), g.Intn(4))})
	}
	for range between(g, 1, z.models) {
		x.m = append(x.m, z.model(g, len(x.s), someOf(g, []int{30, 50, 80})))
	}
	for range between(g, 1, z.openings) {
		o := opening(between(g, 1, z.count), someOf(g, []int{5, 5, 10, 15}), g.Intn(4), g.Intn(4))
		o.Wish.Letter = uint8(between(g, api.LetterR, api.LetterI))
		x.o = append(x.o, o)
	}
	return x
}

// any is one of either kind.
func (z size) any(g *rand.Rand) scene {
	if g.Intn(2) == 0 {
		return z.mixed(g)
	}
	return z.some(g)
}

// planned is a scene in which each opening has a model.
func (z size) planned(t *testing.T, g *rand.Rand) scene {
	for {
		x := z.any(g)
		if _, _, any := x.cheapest(t); any {
			return x
		}
	}
}

// someLeaf is a valid leaf of so many models.
func someLeaf(g *rand.Rand, models int) api.Leaf {
	var l api.Leaf
	in, out := g.Intn(60), g.Intn(40)
	for i := range models {
		switch n := g.Intn(100); {
		case n < in:
			l.In = append(l.In, i)
		case n < in+out:
			l.Out = append(l.Out, i)
		}
	}
	return l
}

// split are both halves of a leaf, by a model that is neither in In nor in Out.
func split(l api.Leaf, by int) (in, out api.Leaf) {
	in, out = leaf(slices.Clone(l.In), slices.Clone(l.Out)), leaf(slices.Clone(l.In), slices.Clone(l.Out))
	in.In, out.Out = append(in.In, by), append(out.Out, by)
	slices.Sort(in.In)
	slices.Sort(out.Out)
	return in, out
}

// someTree is leaves of which each set of so many models is had by one, in any order.
func someTree(g *rand.Rand, models, splits int) []api.Leaf {
	leaves := []api.Leaf{{}}
	for range splits {
		i := g.Intn(len(leaves))
		var free []int
		for by := range models {
			if !slices.Contains(leaves[i].In, by) && !slices.Contains(leaves[i].Out, by) {
				free = append(free, by)
			}
		}
		if len(free) == 0 {
			continue
		}
		in, out := split(leaves[i], someOf(g, free))
		leaves[i] = in
		leaves = append(leaves, out)
	}
	g.Shuffle(len(leaves), func(i, j int) { leaves[i], leaves[j] = leaves[j], leaves[i] })
	return leaves
}
