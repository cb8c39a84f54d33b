package extend_test

import (
	"math/rand"
	"reflect"
	"slices"
	"testing"

	"cottonpad/api"
	"cottonpad/extend"
	"cottonpad/furnace"
)

// lists returns all lists of some of so many indices, in increasing order, the first ones (by the first index that differs) first.
func lists(count int) [][]int {
	all := [][]int{nil}
	for i := count - 1; i >= 0; i-- {
		var with [][]int
		for _, list := range all {
			with = append(with, append([]int{i}, list...))
		}
		all = append(with, all...)
	}
	slices.SortFunc(all, slices.Compare[[]int])
	return all
}

// lacking returns the first clause that no specimen of a list proves, -1 if there is none.
func lacking(table [][]bool, list []int) int {
	return slices.IndexFunc(table, func(row []bool) bool {
		return !slices.ContainsFunc(list, func(i int) bool { return row[i] })
	})
}

// shares returns whether two clauses of a list are proved by one specimen.
func shares(table [][]bool, list []int) bool {
	for i, a := range list {
		for _, b := range list[i+1:] {
			for specimen := range table[a] {
				if table[a][specimen] && table[b][specimen] {
					return true
				}
			}
		}
	}
	return false
}

// shortest returns the first one of the shortest lists that are so.
func shortest(all [][]int, so func([]int) bool) []int {
	var best []int
	found := false
	for _, list := range all {
		if so(list) && (!found || len(list) < len(best)) {
			best, found = list, true
		}
	}
	return best
}

// longest returns the first one of the longest lists that are so.
func longest(all [][]int, so func([]int) bool) []int {
	var best []int
	for _, list := range all {
		if so(list) && len(list) > len(best) {
			best = list
		}
	}
	return best
}

// P3.1 and P3.2: by the words of the chapter, for all lists of specimens.
func TestProvesAndLacksByTheWord(t *testing.T) {
	g := rand.New(rand.NewSource(1))
	for range 300 {
		x := some(g)
		table := x.truth(t)
		proves := x.proves(t)
		if len(proves) != len(x.c) {
			t.Fatal(proves, x)
		}
		for i, row := range table {
			var want []int
			for specimen, proved := range row {
				if proved {
					want = append(want, specimen)
				}
			}
			if !slices.Equal(proves[i], want) {
				t.Fatal(i, proves[i], want, x)
			}
		}
		all := lists(len(x.s))
		for range 20 {
			list := all[g.Intn(len(all))]
			if n := x.lacks(t, list...); n != lacking(table, list) {
				t.Fatal(list, n, table)
			}
		}
	}
}

// P3.3, P3.7 and N3: the fewest and the most of all lists that there are, and at least as many specimens as clauses apart.
func TestFewestAndApartOfAllLists(t *testing.T) {
	g := rand.New(rand.NewSource(2))
	fewest, apart := map[int]int{}, map[int]int{}
	for range 1500 {
		x := some(g)
		if g.Intn(4) > 0 {
			x = someCovered(t, g)
		}
		table := x.truth(t)
		if lacking(table, x.everyone()) != -1 {
			if l, e := extend.Fewest(x.c, x.s, x.w); len(l) != 0 || e != api.ErrNone {
				t.Fatal(l, e, x)
			}
			if l, e := extend.Apart(x.c, x.s, x.w); len(l) != 0 || e != api.ErrNone {
				t.Fatal(l, e, x)
			}
			fewest[0]++
			continue
		}
		few := x.fewest(t)
		if want := shortest(lists(len(x.s)), func(l []int) bool { return lacking(table, l) == -1 }); !slices.Equal(few, want) {
			t.Fatal(few, want, table)
		}
		most := x.apart(t)
		if want := longest(lists(len(x.c)), func(l []int) bool { return !shares(table, l) }); !slices.Equal(most, want) {
			t.Fatal(most, want, table)
		}
		if len(most) > len(few) {
			t.Fatal(few, most, table)
		}
		fewest[len(few)]++
		apart[len(most)]++
	}
	if fewest[0] < 50 || fewest[1] < 50 || fewest[2] < 50 || fewest[3] < 50 || apart[2] < 50 || apart[3] < 50 {
		t.Error("too few of one kind", fewest, apart)
	}
}

// P3.3 and P3.7: tables of all kinds, also of many specimens that prove one clause each.
func TestFewestAndApartOfTables(t *testing.T) {
	g := rand.New(rand.NewSource(3))
	fewest, less := map[int]bool{}, 0
	for range 1500 {
		count := between(g, 1, api.MaxSpecimens)
		part, order := between(g, 0, 3), g.Perm(count)
		var rows []string
		for n := range between(g, 1, api.MaxProperties) {
			row := []byte("........")[:count]
			for i := range row {
				if g.Intn(8) < part {
					row[i] = 'x'
				}
			}
			row[order[n%count]] = 'x'
			rows = append(rows, string(row))
		}
		x := matrix(rows...)
		table := x.truth(t)
		few, most := x.fewest(t), x.apart(t)
		if want := shortest(lists(len(x.s)), func(l []int) bool { return lacking(table, l) == -1 }); !slices.Equal(few, want) {
			t.Fatal(few, want, rows)
		}
		if want := longest(lists(len(x.c)), func(l []int) bool { return !shares(table, l) }); !slices.Equal(most, want) {
			t.Fatal(most, want, rows)
		}
		fewest[len(few)] = true
		if len(most) < len(few) {
			less++
		}
	}
	if len(fewest) < 6 || less < 20 {
		t.Error("not all numbers of specimens came", fewest, less)
	}
}

// P3.4: the greatest class of all.
func TestBestByTheWord(t *testing.T) {
	g := rand.New(rand.NewSource(4))
	seen := map[int]bool{}
	for range 600 {
		x := some(g)
		if g.Intn(4) > 0 {
			x = someCovered(t, g)
		}
		want := 0
		for _, minutes := range []int{5, 10, 15, 20, 30, 45, 60} {
			y := x
			y.w.Minutes = minutes
			if lacking(y.truth(t), y.everyone()) == -1 {
				want = minutes
			}
		}
		if n := x.best(t); n != want {
			t.Fatal(n, want, x)
		}
		seen[want] = true
	}
	if len(seen) != 8 {
		t.Error("not all classes came", seen)
	}
}

// P3.5 and P3.9: with each value of its reach a wish is covered, just outside of it with none.
func TestReachIsSo(t *testing.T) {
	g := rand.New(rand.NewSource(5))
	kinds := map[string]int{}
	for range 300 {
		x := someCovered(t, g)
		if g.Intn(3) == 0 {
			x = x.with(func(x *scene) { atTheTop(x) })
		}
		for property := range api.MaxProperties {
			reach, own := x.reach(t, property), x.w.Props[property]
			if reach.Lo < 0 || reach.Lo > own || own > reach.Hi || reach.Hi > api.MaxLength {
				t.Fatal(reach, own)
			}
			for _, value := range []int{reach.Lo, reach.Lo + 1, own - 1, own, own + 1, reach.Hi - 1, reach.Hi, between(g, reach.Lo, reach.Hi)} {
				if reach.Lo <= value && value <= reach.Hi && !x.valued(property, value).covered(t) {
					t.Fatal(property, reach, value, x)
				}
			}
			for _, value := range []int{reach.Lo - 1, reach.Hi + 1} {
				if 0 <= value && value <= api.MaxLength && x.valued(property, value).covered(t) {
					t.Fatal(property, reach, value, x)
				}
			}
			for name, is := range map[string]bool{"one": reach.Lo == reach.Hi, "few": reach.Hi-reach.Lo < 10 && reach.Hi > reach.Lo, "up": reach.Hi == api.MaxLength && reach.Lo > 0, "down": reach.Lo == 0 && reach.Hi < api.MaxLength, "all": reach == span(0, api.MaxLength)} {
				if is {
					kinds[name]++
				}
			}
		}
	}
	for _, name := range []string{"one", "few", "up", "down", "all"} {
		if kinds[name] < 20 {
			t.Error("too few", kinds)
		}
	}
}

// atTheTop moves all values to the greatest ones that there may be.
func atTheTop(x *scene) {
	for i := range api.MaxProperties {
		x.w.Props[i] += api.MaxLength - 9
		for n := range x.s {
			x.s[n].Props[i] += api.MaxLength - 9
		}
	}
}

// P3.5: each value between both ends, one after the other, and none between the last one that is so and the next.
func TestReachStepByStep(t *testing.T) {
	g := rand.New(rand.NewSource(6))
	joined := 0
	for range 400 {
		x := scene{w: wish(api.LetterI, 30, between(g, 0, 15))}
		for range between(g, 1, 3) {
			x.c = append(x.c, clause(0, same, 0, g.Intn(2)*15))
		}
		for range api.MaxSpecimens {
			x.s = append(x.s, specimen([]int{30, 60, 60}[g.Intn(3)], between(g, 0, 15)))
		}
		if g.Intn(2) == 0 {
			x.c = append(x.c, clause(0, uint8(between(g, upTo, from)), between(g, 0, 3), g.Intn(2)*15))
		}
		if !x.covered(t) {
			continue
		}
		own := x.w.Props[0]
		want := span(own, own)
		for want.Lo > 0 && x.valued(0, want.Lo-1).covered(t) {
			want.Lo--
		}
		for want.Hi < 20 && x.valued(0, want.Hi+1).covered(t) {
			want.Hi++
		}
		if s := x.reach(t, 0); s != want {
			t.Fatal(s, want, x)
		}
		if want.Lo < want.Hi {
			joined++
		}
	}
	if joined < 50 {
		t.Error("too few", joined)
	}
}

// P3.6 and N3: in a furnace that left its limits in a minute a specimen proves just what is left of it, and others stand.
func TestSpoiled(t *testing.T) {
	x := matrix("xx.", "x.x")
	x.c[1].Over = 4
	for spoiled := 1; spoiled <= 60; spoiled++ {
		for _, err := range []api.Span{span(0, 0), span(0, 5)} {
			x.s[0].Test.Run = furnaceOf(60, spoiled)
			// Whether it left them for sure or perhaps makes no difference.
			x.s[0].Test.Run.Couples[0].Error = err
			counts, e := furnace.Counts(x.s[0].Test.Run, x.s[0].Test.Rules)
			if e != api.OK || counts != spoiled-1 {
				t.Fatal(counts, e)
			}
			left := 0
			for _, minutes := range []int{5, 10, 15, 20, 30, 45, 60} {
				if minutes <= counts {
					left = minutes
				}
			}
			for minutes := 1; minutes <= 56; minutes++ {
				x.w.Minutes = minutes
				want := [][]int{{1}, {2}}
				if minutes <= left {
					want[0] = []int{0, 1}
				}
				if minutes+4 <= left {
					want[1] = []int{0, 2}
				}
				if l := x.proves(t); !reflect.DeepEqual(l, want) {
					t.Fatal(spoiled, minutes, l, want)
				}
				if !x.covered(t) || (x.lacks(t, 0) == -1) != (minutes+4 <= left) {
					t.Fatal(spoiled, minutes)
				}
			}
		}
	}
}

// P3.6: a wish is covered only if each clause is proved by itself.
func TestEachClauseIsProved(t *testing.T) {
	g := rand.New(rand.NewSource(7))
	for range 300 {
		x := some(g)
		every := true
		for _, c := range x.c {
			y := x
			y.c = []api.Clause{c}
			every = every && y.covered(t)
		}
		if x.covered(t) != every {
			t.Fatal(every, x)
		}
	}
}

// better checks that a scene covers as much as another one with fewer specimens, or with more clauses.
func better(t *testing.T, x, worse scene) {
	t.Helper()
	if !worse.covered(t) {
		if x.best(t) < worse.best(t) {
			t.Fatal(x, worse)
		}
		return
	}
	if !x.covered(t) || x.best(t) < worse.best(t) || len(x.fewest(t)) > len(worse.fewest(t)) {
		t.Fatal(x, worse)
	}
	for property := range api.MaxProperties {
		if a, b := x.reach(t, property), worse.reach(t, property); a.Lo > b.Lo || a.Hi < b.Hi {
			t.Fatal(property, a, b, x, worse)
		}
	}
}

// closeSpecimen is one that has some of the values of a wish.
func closeSpecimen(g *rand.Rand, w api.Wish) api.Specimen {
	s := someSpecimen(g)
	for i := range s.Props {
		if g.Intn(3) > 0 {
			s.Props[i] = w.Props[i]
		}
	}
	return s
}

// P3.8: with a specimen more nothing is covered less, and no more are needed.
func TestSpecimenMore(t *testing.T) {
	g := rand.New(rand.NewSource(8))
	newly, fewer := 0, 0
	for range 500 {
		x := some(g)
		if g.Intn(2) == 0 {
			x = someCovered(t, g)
		}
		if len(x.s) == api.MaxSpecimens {
			continue
		}
		more := x.with(func(x *scene) { x.s = slices.Insert(x.s, g.Intn(len(x.s)+1), closeSpecimen(g, x.w)) })
		better(t, more, x)
		if more.covered(t) && !x.covered(t) {
			newly++
		}
		if x.covered(t) && len(more.fewest(t)) < len(x.fewest(t)) {
			fewer++
		}
	}
	if newly < 10 || fewer < 10 {
		t.Error("too few", newly, fewer)
	}
}

// P3.8: with a clause more nothing is covered more, and no fewer are needed.
func TestClauseMore(t *testing.T) {
	g := rand.New(rand.NewSource(9))
	less, needed := 0, 0
	for range 500 {
		x := someCovered(t, g)
		if len(x.c) == api.MaxClauses {
			continue
		}
		more := x.with(func(x *scene) { x.c = slices.Insert(x.c, g.Intn(len(x.c)+1), someClause(g)) })
		better(t, x, more)
		if !more.covered(t) {
			less++
		} else if len(more.fewest(t)) > len(x.fewest(t)) {
			needed++
		}
	}
	if less < 10 || needed < 10 {
		t.Error("too few", less, needed)
	}
}

// P3.8: a wish of fewer minutes is covered by all that cover one of more.
func TestFewerMinutes(t *testing.T) {
	g := rand.New(rand.NewSource(10))
	newly := 0
	for range 300 {
		x := some(g)
		if g.Intn(2) == 0 {
			x = someCovered(t, g)
		}
		all := lists(len(x.s))
		fewer := x
		fewer.w.Minutes = between(g, 1, x.w.Minutes)
		for range 10 {
			list := all[g.Intn(len(all))]
			if x.lacks(t, list...) == -1 && fewer.lacks(t, list...) != -1 {
				t.Fatal(list, x, fewer.w.Minutes)
			}
			if x.lacks(t, list...) != -1 && fewer.lacks(t, list...) == -1 {
				newly++
			}
		}
		better(t, fewer, x)
	}
	if newly < 10 {
		t.Error("too few", newly)
	}
}

// P3.10: specimens and clauses in another order.
func TestOrder(t *testing.T) {
	g := rand.New(rand.NewSource(11))
	for range 300 {
		x := some(g)
		if g.Intn(2) == 0 {
			x = someCovered(t, g)
		}
		y := x.copied()
		g.Shuffle(len(y.c), func(a, b int) { y.c[a], y.c[b] = y.c[b], y.c[a] })
		g.Shuffle(len(y.s), func(a, b int) { y.s[a], y.s[b] = y.s[b], y.s[a] })
		if x.covered(t) != y.covered(t) || x.best(t) != y.best(t) {
			t.Fatal(x, y)
		}
		if !x.covered(t) {
			continue
		}
		if len(x.fewest(t)) != len(y.fewest(t)) || len(x.apart(t)) != len(y.apart(t)) {
			t.Fatal(x, y)
		}
		for property := range api.MaxProperties {
			if a, b := x.reach(t, property), y.reach(t, property); a != b {
				t.Fatal(property, a, b, x, y)
			}
		}
	}
}
