package extend_test

import (
	"reflect"
	"slices"
	"testing"

	"cottonpad/api"
	"cottonpad/class"
	"cottonpad/extend"
)

// P3.1 to P3.5: the chapter's examples.
func TestExamples(t *testing.T) {
	x := example()
	for letter, want := range []int{20, 15, 5} {
		if s, e := class.Class(exampleTest(), uint8(letter+1)); s.Lo != want || e != api.OK {
			t.Error(s, e)
		}
		if s, e := class.Class(exampleOther(), uint8(letter+1)); s.Lo != 20 || e != api.OK {
			t.Error(s, e)
		}
	}
	if l := x.proves(t); !reflect.DeepEqual(l, [][]int{{0, 2}, {1}, {0, 1}, {1}}) {
		t.Error(l)
	}
	if a, b, c := x.lacks(t, 0), x.lacks(t, 1), x.lacks(t, 0, 1); a != 1 || b != 0 || c != -1 {
		t.Error(a, b, c)
	}
	if a, b := x.fewest(t), x.apart(t); !slices.Equal(a, []int{0, 1}) || !slices.Equal(b, []int{0, 1}) {
		t.Error(a, b)
	}
	if n := x.best(t); n != 15 {
		t.Error(n)
	}
	if a, b := x.reach(t, 0), x.reach(t, 1); a != span(1000, 2200) || b != span(0, 1200) {
		t.Error(a, b)
	}
}

// one is a scene of one clause about the property 1, one specimen with a value of it and a class, and a wish with a value of it.
func one(c api.Clause, value, minutes, wished int) scene {
	return scene{c: []api.Clause{c}, s: []api.Specimen{specimen(minutes, 7, value)}, w: wish(api.LetterE, 15, 8, wished)}
}

// P3.1: each kind of clauses just at its edge, and just beyond it.
func TestKindsAtEdges(t *testing.T) {
	for i, x := range []struct {
		c             api.Clause
		value, wished int
		proved        bool
	}{
		{clause(1, same, 0, 0), 50, 50, true}, {clause(1, same, 0, 0), 50, 49, false}, {clause(1, same, 0, 0), 50, 51, false}, {clause(1, same, 0, 0), 0, 0, true}, {clause(1, same, 0, 0), 100000, 100000, true}, {clause(1, same, 0, 0), 0, 100000, false},
		{clause(1, upTo, 0, 0), 50, 50, true}, {clause(1, upTo, 0, 0), 50, 51, false}, {clause(1, upTo, 0, 0), 50, 0, true}, {clause(1, upTo, 3, 0), 50, 53, true}, {clause(1, upTo, 3, 0), 50, 54, false}, {clause(1, upTo, 100000, 0), 0, 100000, true}, {clause(1, upTo, 99999, 0), 0, 100000, false}, {clause(1, upTo, 100000, 0), 100000, 100000, true},
		{clause(1, from, 0, 0), 50, 50, true}, {clause(1, from, 0, 0), 50, 49, false}, {clause(1, from, 0, 0), 50, 100000, true}, {clause(1, from, 3, 0), 50, 47, true}, {clause(1, from, 3, 0), 50, 46, false}, {clause(1, from, 100000, 0), 100000, 0, true}, {clause(1, from, 99999, 0), 100000, 0, false}, {clause(1, from, 100000, 0), 0, 0, true},
	} {
		y := one(x.c, x.value, 15, x.wished)
		want := [][]int{nil}
		if x.proved {
			want[0] = []int{0}
		}
		if l := y.proves(t); !slices.EqualFunc(l, want, slices.Equal) {
			t.Error(i, l)
		}
		if y.covered(t) != x.proved {
			t.Error(i)
		}
		// One minute more than its class has, and none is proved.
		y.w.Minutes++
		if l := y.proves(t); len(l) != 1 || len(l[0]) != 0 {
			t.Error(i, l)
		}
	}
}

// P3.1: a clause asks for its own property alone, and each property can be asked for.
func TestProperties(t *testing.T) {
	for asked := range api.MaxProperties {
		for other := range api.MaxProperties {
			for _, kind := range []uint8{same, upTo, from} {
				x := one(clause(asked, kind, 0, 0), 50, 15, 50)
				x.w.Props, x.s[0].Props = []int{5, 5, 5, 5, 5, 5}, []int{5, 5, 5, 5, 5, 5}
				x.w.Props[other] = 6
				if kind == from {
					x.w.Props[other] = 4
				}
				if x.covered(t) != (asked != other) {
					t.Error(asked, other, kind)
				}
			}
		}
	}
}

// P3.1: Minutes and Over are together at most the class for the letter.
func TestMinutesAndOver(t *testing.T) {
	for _, x := range []struct {
		letter            uint8
		class, mins, over int
		proved            bool
	}{
		{api.LetterR, 60, 60, 0, true}, {api.LetterR, 60, 59, 1, true}, {api.LetterR, 60, 60, 1, false}, {api.LetterR, 60, 1, 59, true}, {api.LetterR, 60, 1, 60, false},
		{api.LetterE, 20, 15, 5, true}, {api.LetterE, 20, 16, 5, false}, {api.LetterE, 20, 15, 6, false}, {api.LetterE, 20, 20, 0, true}, {api.LetterE, 20, 21, 0, false},
		{api.LetterI, 5, 1, 4, true}, {api.LetterI, 5, 1, 5, false}, {api.LetterI, 5, 6, 0, false}, {api.LetterI, 0, 1, 0, false},
	} {
		y := one(clause(1, same, 0, x.over), 1, 0, 1)
		classes := [3]int{60, 20, 5}
		y.s[0].Test = tested(classes[0], classes[1], classes[2])
		if x.class == 0 {
			y.s[0].Test = tested(60, 20, 0)
		}
		y.w.Letter, y.w.Minutes = x.letter, x.mins
		if y.covered(t) != x.proved {
			t.Error(x)
		}
	}
}

// P3.1: the lesser class counts, not what a test may have.
func TestLesserClass(t *testing.T) {
	x := one(clause(1, same, 0, 0), 1, 0, 1)
	x.s[0].Test = exampleTest()
	x.w.Letter = api.LetterI
	if s, _ := class.Class(x.s[0].Test, api.LetterI); s != span(5, 15) {
		t.Fatal(s)
	}
	for minutes := 1; minutes <= 60; minutes++ {
		x.w.Minutes = minutes
		if x.covered(t) != (minutes <= 5) {
			t.Error(minutes)
		}
	}
}

// P3.2: the first clause of several that are not proved.
func TestLacks(t *testing.T) {
	x := scene{
		c: []api.Clause{clause(0, same, 0, 0), clause(1, same, 0, 0), clause(2, same, 0, 0)},
		s: []api.Specimen{specimen(60, 1, 0, 0), specimen(60, 0, 1, 0), specimen(60, 0, 0, 1), specimen(60, 1, 1, 0)},
		w: wish(api.LetterI, 60, 1, 1, 1),
	}
	for _, y := range []struct {
		set  []int
		want int
	}{
		{nil, 0}, {[]int{}, 0}, {[]int{0}, 1}, {[]int{1}, 0}, {[]int{2}, 0}, {[]int{3}, 2}, {[]int{0, 1}, 2}, {[]int{0, 2}, 1}, {[]int{1, 2}, 0},
		{[]int{0, 1, 2}, -1}, {[]int{2, 3}, -1}, {[]int{0, 1, 3}, 2}, {[]int{0, 1, 2, 3}, -1},
	} {
		if n := x.lacks(t, y.set...); n != y.want {
			t.Error(y.set, n)
		}
	}
	x.s = nil
	if n := x.lacks(t); n != 0 {
		t.Error(n)
	}
}

// matrix is a scene of which specimens prove which clauses: a row for each clause (of a property of its own), with an x for each specimen that does.
func matrix(rows ...string) scene {
	x := scene{w: wish(api.LetterI, 60)}
	for range len(rows[0]) {
		x.s = append(x.s, specimen(60))
	}
	for i, row := range rows {
		x.c = append(x.c, clause(i, same, 0, 0))
		for specimen := range row {
			if row[specimen] != 'x' {
				x.s[specimen].Props[i] = 1
			}
		}
	}
	return x
}

// P3.3: the fewest of several lists, and the first of them; the most clauses apart, and the first of them.
func TestFewestAndApart(t *testing.T) {
	for i, x := range []struct {
		rows          []string
		fewest, apart []int
	}{
		{[]string{"x"}, []int{0}, []int{0}},
		{[]string{".x.x"}, []int{1}, []int{0}},
		{[]string{"x..", ".x.", "..x"}, []int{0, 1, 2}, []int{0, 1, 2}},
		{[]string{"xx", "xx"}, []int{0}, []int{0}},
		// 0 3 and 1 2 are as few: the first index that differs is less.
		{[]string{"x.x.", ".x.x", "xx..", "..xx"}, []int{0, 3}, []int{0, 1}},
		// 0 with 2 comes before 1 with 2, 0 with 3 after it.
		{[]string{"xx..", "..xx"}, []int{0, 2}, []int{0, 1}},
		{[]string{"..xx", "xx.."}, []int{0, 2}, []int{0, 1}},
		// Of clauses 0 3 and 1 2 are as many.
		{[]string{"xx..", "x.x.", ".x.x", "..xx"}, []int{0, 3}, []int{0, 3}},
		// One at the end is less than two at the beginning.
		{[]string{"x.x", ".xx"}, []int{2}, []int{0}},
		// Each two clauses share a specimen, and no specimen proves all.
		{[]string{"xx.", "x.x", ".xx"}, []int{0, 1}, []int{0}},
		// The first clause is with none apart; 1, 2 and 3 are.
		{[]string{"xxx", "x..", ".x.", "..x"}, []int{0, 1, 2}, []int{1, 2, 3}},
		// Some clauses are proved by one alone.
		{[]string{"xx..", ".x..", "..xx", "...x"}, []int{1, 3}, []int{0, 2}},
		{[]string{"xx...", "x.x..", "...xx"}, []int{0, 3}, []int{0, 2}},
		// 0 1 comes before 0 5, and that before 1 2.
		{[]string{".x...x", "x.x..."}, []int{0, 1}, []int{0, 1}},
		{[]string{"x.......", ".x......", "..x.....", "...x....", "....x...", ".....xxx"}, []int{0, 1, 2, 3, 4, 5}, []int{0, 1, 2, 3, 4, 5}},
	} {
		y := matrix(x.rows...)
		if l := y.fewest(t); !slices.Equal(l, x.fewest) {
			t.Error(i, "fewest", l)
		}
		if l := y.apart(t); !slices.Equal(l, x.apart) {
			t.Error(i, "apart", l)
		}
	}
}

// P3.3: not covered by all, so by none.
func TestNone(t *testing.T) {
	for i, x := range []scene{matrix("x.", ".."), matrix("."), matrix("..", "xx"), {c: example().c, w: example().w}} {
		if l, e := extend.Fewest(x.c, x.s, x.w); len(l) != 0 || e != api.ErrNone {
			t.Error(i, l, e)
		}
		if l, e := extend.Apart(x.c, x.s, x.w); len(l) != 0 || e != api.ErrNone {
			t.Error(i, l, e)
		}
		for property := range api.MaxProperties {
			if s, e := extend.Reach(x.c, x.s, x.w, property); s != (api.Span{}) || e != api.ErrNone {
				t.Error(i, s, e)
			}
		}
		// Beside ErrNone, the other argument is checked first.
		if s, e := extend.Reach(x.c, x.s, x.w, api.MaxProperties); s != (api.Span{}) || e != api.ErrArg {
			t.Error(i, s, e)
		}
		if l := x.proves(t); len(l) != len(x.c) {
			t.Error(i, l)
		}
	}
}

// P3.4: the greatest class, whatever the Minutes of the wish are.
func TestBest(t *testing.T) {
	for _, minutes := range []int{0, 5, 10, 15, 20, 30, 45, 60} {
		for _, over := range []int{0, 1, 5, 10, 14, 15, 16, 40, 60} {
			want := 0
			for _, c := range []int{5, 10, 15, 20, 30, 45, 60} {
				if c+over <= minutes {
					want = c
				}
			}
			for _, wished := range []int{1, 15, 60} {
				x := one(clause(1, same, 0, over), 3, minutes, 3)
				x.w.Minutes = wished
				if n := x.best(t); n != want {
					t.Error(minutes, over, wished, n, want)
				}
				x.w.Props[1] = 4
				if n := x.best(t); n != 0 {
					t.Error(minutes, over, wished, n)
				}
			}
		}
	}
	// The least of what each clause lets.
	x := matrix("x.", ".x")
	x.s[1].Test = tested(60, 45, 20)
	for letter, want := range []int{60, 45, 20} {
		x.w.Letter = uint8(letter + 1)
		if n := x.best(t); n != want {
			t.Error(letter, n)
		}
	}
	x.s = nil
	if n := x.best(t); n != 0 {
		t.Error(n)
	}
}

// P3.5: the reach of one property.
func TestReach(t *testing.T) {
	for i, x := range []struct {
		clauses []api.Clause
		values  []int
		wished  int
		want    api.Span
	}{
		{[]api.Clause{clause(1, same, 0, 0)}, []int{50}, 50, span(50, 50)},
		{[]api.Clause{clause(1, upTo, 0, 0)}, []int{50}, 20, span(0, 50)},
		{[]api.Clause{clause(1, upTo, 7, 0)}, []int{50}, 57, span(0, 57)},
		{[]api.Clause{clause(1, upTo, 7, 0)}, []int{50, 70, 20}, 57, span(0, 77)},
		{[]api.Clause{clause(1, upTo, 7, 0)}, []int{99993}, 0, span(0, 100000)},
		{[]api.Clause{clause(1, upTo, 100000, 0)}, []int{100000}, 0, span(0, 100000)},
		{[]api.Clause{clause(1, from, 7, 0)}, []int{50}, 43, span(43, 100000)},
		{[]api.Clause{clause(1, from, 7, 0)}, []int{50, 70, 20}, 43, span(13, 100000)},
		{[]api.Clause{clause(1, from, 7, 0)}, []int{7}, 43, span(0, 100000)},
		{[]api.Clause{clause(1, from, 100000, 0)}, []int{0}, 43, span(0, 100000)},
		// Several values that follow each other, in any order, and a gap.
		{[]api.Clause{clause(1, same, 0, 0)}, []int{51, 54, 50, 52}, 50, span(50, 52)},
		{[]api.Clause{clause(1, same, 0, 0)}, []int{51, 54, 50, 52}, 52, span(50, 52)},
		{[]api.Clause{clause(1, same, 0, 0)}, []int{51, 54, 50, 52}, 51, span(50, 52)},
		{[]api.Clause{clause(1, same, 0, 0)}, []int{51, 54, 50, 52}, 54, span(54, 54)},
		{[]api.Clause{clause(1, same, 0, 0)}, []int{57, 56, 55, 54, 53, 52, 51, 50}, 50, span(50, 57)},
		{[]api.Clause{clause(1, same, 0, 0)}, []int{50, 51, 52, 53, 54, 55, 56, 57}, 57, span(50, 57)},
		{[]api.Clause{clause(1, same, 0, 0)}, []int{0, 1, 100000, 99999}, 100000, span(99999, 100000)},
		{[]api.Clause{clause(1, same, 0, 0)}, []int{0, 1, 100000, 99999}, 1, span(0, 1)},
		// Several clauses about it.
		{[]api.Clause{clause(1, upTo, 3, 0), clause(1, from, 4, 0)}, []int{50}, 50, span(46, 53)},
		{[]api.Clause{clause(1, upTo, 3, 0), clause(1, from, 4, 0)}, []int{50, 70}, 60, span(46, 73)},
		{[]api.Clause{clause(1, upTo, 3, 0), clause(1, same, 0, 0)}, []int{50, 51, 52}, 51, span(50, 52)},
		{[]api.Clause{clause(1, upTo, 3, 0), clause(1, upTo, 1, 0), clause(1, upTo, 2, 0)}, []int{50}, 51, span(0, 51)},
		// None about it.
		{[]api.Clause{clause(0, same, 0, 0), clause(5, upTo, 0, 0)}, []int{50}, 51, span(0, 100000)},
	} {
		y := scene{c: x.clauses, w: wish(api.LetterI, 30, 0, x.wished)}
		for _, value := range x.values {
			y.s = append(y.s, specimen(30, 0, value))
		}
		if s := y.reach(t, 1); s != x.want {
			t.Error(i, s)
		}
	}
}

// P3.5: a specimen whose class is not enough for a clause makes nothing higher or wider, though it may for another clause.
func TestReachOfClasses(t *testing.T) {
	x := scene{
		c: []api.Clause{clause(1, upTo, 0, 0), clause(1, from, 10, 15)},
		s: []api.Specimen{specimen(60, 0, 40), specimen(30, 0, 70), specimen(15, 0, 90), specimen(45, 0, 35)},
		w: wish(api.LetterI, 30, 0, 50),
	}
	if s := x.reach(t, 1); s != span(25, 70) {
		t.Error(s)
	}
	x.w.Minutes = 31
	if s, e := extend.Reach(x.c, x.s, x.w, 1); s != (api.Span{}) || e != api.ErrNone {
		t.Error(s, e)
	}
	x.w.Props[1] = 40
	if s := x.reach(t, 1); s != span(30, 40) {
		t.Error(s)
	}
}
