package furnace_test

import (
	"math/big"
	"math/rand"
	"slices"
	"testing"

	"cottonpad/api"
	"cottonpad/furnace"
)

const tries = 1500

// truth is how a run can have been: a part, from 0 to 1, of each span of what may be true, by minutes and couples (the last one stands for the gauge).
type truth [][]*big.Rat

func whole(n int) *big.Rat { return new(big.Rat).SetInt64(int64(n)) }

// even is the truth in which all is at the same part of its span.
func even(r api.Run, part *big.Rat) truth {
	var all truth
	for range r.Rows {
		all = append(all, slices.Repeat([]*big.Rat{part}, len(r.Couples)+1))
	}
	return all
}

func anyTruth(g *rand.Rand, r api.Run) truth {
	all := even(r, nil)
	for _, line := range all {
		for i := range line {
			line[i] = big.NewRat(int64(g.Intn(9)), 8)
		}
	}
	return all
}

func works(c api.Couple, minute int) bool { return c.Breaks == 0 || minute < c.Breaks }

// shown is what the chapter says of what a couple may show, row by row.
func shown(r api.Run, couple, minute int) []int {
	c := r.Couples[couple]
	last := 0
	for i := range r.Rows {
		if works(c, i+1) {
			last = r.Rows[i].Degrees[couple]
		}
	}
	var list []int
	for lag := c.Lag.Lo; lag <= c.Lag.Hi; lag++ {
		if at := minute + lag; at <= len(r.Rows) && works(c, at) {
			list = append(list, r.Rows[at-1].Degrees[couple])
		} else {
			list = append(list, last)
		}
	}
	return list
}

func part(lo, hi int, of *big.Rat) *big.Rat {
	n := new(big.Rat).Mul(whole(hi-lo), of)
	return n.Add(n, whole(lo))
}

func (x truth) degree(r api.Run, couple, minute int) *big.Rat {
	list, err := shown(r, couple, minute), r.Couples[couple].Error
	return part(slices.Min(list)-err.Hi, slices.Max(list)-err.Lo, x[minute-1][couple])
}

func (x truth) press(r api.Run, minute int) *big.Rat {
	press := r.Rows[minute-1].Press
	return part(press-r.Gauge.Hi, press-r.Gauge.Lo, x[minute-1][len(r.Couples)])
}

// sums returns the sums of the means, and of the curve, until a minute.
func (x truth) sums(r api.Run, until int) (means *big.Rat, curve int) {
	means = whole(0)
	for minute := 1; minute <= until; minute++ {
		total, n := whole(0), 0
		for i, c := range r.Couples {
			if works(c, minute) {
				total.Add(total, x.degree(r, i, minute))
				n++
			}
		}
		if n > 0 {
			at, _ := furnace.At(r.Curve, minute)
			curve += at
			means.Add(means, total.Quo(total, whole(n)))
		}
	}
	return means, curve
}

// measure returns what a limit is about in a truth, and the span in which it has to be; false if the limit does not apply.
func (x truth) measure(r api.Run, u api.Rules, minute int, kind uint8, couple int) (is, lo, hi *big.Rat, applies bool) {
	switch kind {
	case api.BreachArea:
		for _, s := range u.Steps {
			if s.From <= minute {
				means, curve := x.sums(r, minute)
				off := big.NewRat(int64(s.Part*curve), 1000)
				is, lo, hi, applies = means, new(big.Rat).Sub(whole(curve), off), new(big.Rat).Add(whole(curve), off), true
			}
		}
		return is, lo, hi, applies
	case api.BreachSingle:
		at, _ := furnace.At(r.Curve, minute)
		if works(r.Couples[couple], minute) && minute >= u.SingleFrom {
			return x.degree(r, couple, minute), whole(at - u.Single), whole(at + u.Single), true
		}
	case api.BreachPress:
		return x.press(r, minute), whole(u.Press.Lo), whole(u.Press.Hi), minute >= u.PressFrom
	}
	return nil, nil, nil, false
}

func (x truth) breaks(r api.Run, u api.Rules, minute int, kind uint8, couple int) bool {
	if kind == api.BreachBlind {
		return !slices.ContainsFunc(r.Couples, func(c api.Couple) bool { return works(c, minute) })
	}
	is, lo, hi, applies := x.measure(r, u, minute, kind, couple)
	return applies && (is.Cmp(lo) < 0 || is.Cmp(hi) > 0)
}

// fair is an even truth in which a limit is as little broken as it can be.
func fair(r api.Run, u api.Rules, minute int, kind uint8, couple int) truth {
	least, greatest := even(r, whole(0)), even(r, whole(1))
	from, lo, hi, applies := least.measure(r, u, minute, kind, couple)
	to, _, _, _ := greatest.measure(r, u, minute, kind, couple)
	if !applies || from.Cmp(lo) >= 0 || from.Cmp(to) == 0 {
		return least
	}
	if to.Cmp(hi) <= 0 {
		return greatest
	}
	want := new(big.Rat).Sub(lo, from)
	return even(r, want.Quo(want, new(big.Rat).Sub(to, from)))
}

// key is a limit of a minute, with the index of its couple.
type key struct {
	minute int
	kind   uint8
	couple int
}

func keys(r api.Run) []key {
	var list []key
	for i := range r.Rows {
		list = append(list, key{i + 1, api.BreachBlind, -1}, key{i + 1, api.BreachArea, -1})
		for c := range r.Couples {
			list = append(list, key{i + 1, api.BreachSingle, c})
		}
		list = append(list, key{i + 1, api.BreachPress, -1})
	}
	return list
}

// told is what Left tells, by limits.
func told(t *testing.T, r api.Run, u api.Rules) map[key]uint8 {
	t.Helper()
	all := map[key]uint8{}
	for _, b := range left(t, r, u) {
		couple := slices.IndexFunc(r.Couples, func(c api.Couple) bool { return c.Id == b.Couple })
		k := key{b.Minute, b.Kind, couple}
		if _, twice := all[k]; twice || b.Known != api.KnownOpen && b.Known != api.KnownYes || (couple < 0) != (b.Couple == -1) {
			t.Error(b)
		}
		all[k] = b.Known
	}
	return all
}

// P1.3 and P1.6: no other limit is broken, what is for sure is broken, and both come about.
func TestTruths(t *testing.T) {
	g := rand.New(rand.NewSource(1))
	seen := map[key]int{}
	for range tries {
		r, u := someRun(g), someRules(g)
		all := told(t, r, u)
		truths := []truth{even(r, whole(0)), even(r, whole(1)), anyTruth(g, r)}
		for _, k := range keys(r) {
			known := all[k]
			seen[key{0, k.kind, int(known)}]++
			fairest := fair(r, u, k.minute, k.kind, k.couple)
			some, every := false, fairest.breaks(r, u, k.minute, k.kind, k.couple)
			for _, x := range truths {
				now := x.breaks(r, u, k.minute, k.kind, k.couple)
				some, every = some || now, every && now
			}
			if some != (known != api.KnownNo) || every != (known == api.KnownYes) {
				t.Fatal(k, known, some, every, r, u)
			}
		}
	}
	for _, kind := range []uint8{api.BreachArea, api.BreachSingle, api.BreachPress} {
		for known := range 3 {
			if seen[key{0, kind, known}] < 100 {
				t.Error("too few of", kind, known, seen[key{0, kind, known}])
			}
		}
	}
}

// P1.2: Mean's ends are reached, and no mean is beyond them.
func TestMeanOfTruths(t *testing.T) {
	g := rand.New(rand.NewSource(2))
	mean := func(x truth, r api.Run, minute int) *big.Rat {
		until, _ := x.sums(r, minute)
		before, _ := x.sums(r, minute-1)
		until.Sub(until, before)
		return until.Mul(until, whole(api.MeanParts))
	}
	for range tries {
		r := someRun(g)
		for i := range r.Rows {
			minute := i + 1
			s, e := furnace.Mean(r, minute)
			if (even(r, whole(0))).breaks(r, loose(), minute, api.BreachBlind, -1) {
				if e != api.ErrArg || s != (api.Span{}) {
					t.Fatal(s, e)
				}
				continue
			}
			least, greatest, other := mean(even(r, whole(0)), r, minute), mean(even(r, whole(1)), r, minute), mean(anyTruth(g, r), r, minute)
			if e != api.OK || whole(s.Lo).Cmp(least) != 0 || whole(s.Hi).Cmp(greatest) != 0 || other.Cmp(least) < 0 || other.Cmp(greatest) > 0 {
				t.Fatal(minute, s, e, least, greatest, other)
			}
		}
	}
}

// P1.4, P1.5 and N1: Kept and Counts by what Left tells, and the minute that is named.
func TestKeptByLeft(t *testing.T) {
	g := rand.New(rand.NewSource(3))
	for range tries {
		r, u := someRun(g), someRules(g)
		list := left(t, r, u)
		last := 0
		for until := 0; until <= len(r.Rows); until++ {
			sure, may := 0, 0
			for _, b := range slices.Backward(list) {
				if b.Minute <= until && b.Known == api.KnownYes {
					sure = b.Minute
				}
				if b.Minute <= until {
					may = b.Minute
				}
			}
			known, minute := uint8(api.KnownYes), 0
			if sure > 0 {
				known, minute = api.KnownNo, sure
			} else if may > 0 {
				known, minute = api.KnownOpen, may
			} else {
				last = until
			}
			if k, m, e := furnace.Kept(r, u, until); k != known || m != minute || e != api.OK {
				t.Fatal(until, k, m, e)
			}
		}
		if n, e := furnace.Counts(r, u); n != last || e != api.OK {
			t.Fatal(n, e)
		}
	}
}

func until(list []api.Breach, minute int) []api.Breach {
	return slices.DeleteFunc(slices.Clone(list), func(b api.Breach) bool { return b.Minute > minute })
}

// P1.7 and N1: what was before stands, whatever is read later.
func TestLaterRows(t *testing.T) {
	g := rand.New(rand.NewSource(4))
	for range tries {
		r, u := someRun(g), someRules(g)
		n := between(g, 1, len(r.Rows))
		short, other := copyRun(r), copyRun(r)
		short.Rows = short.Rows[:n]
		for i := n; i < len(other.Rows); i++ {
			other.Rows[i].Press = between(g, -100, 100)
			for c := range other.Couples {
				other.Rows[i].Degrees[c] = g.Intn(2001)
			}
		}
		minute := max(0, n-api.MaxLate)
		want := until(left(t, r, u), minute)
		for _, x := range []api.Run{short, other} {
			if l := until(left(t, x, u), minute); !slices.Equal(l, want) {
				t.Fatal(minute, l, want)
			}
			for m := range minute {
				a, e := furnace.Mean(r, m+1)
				b, f := furnace.Mean(x, m+1)
				if a != b || e != f {
					t.Fatal(m+1, a, e, b, f)
				}
			}
			k, m, _ := furnace.Kept(r, u, minute)
			if k2, m2, e := furnace.Kept(x, u, minute); k != k2 || m != m2 || e != api.OK {
				t.Fatal(minute, k2, m2, e)
			}
			a, _ := furnace.Counts(r, u)
			if b, _ := furnace.Counts(x, u); min(a, minute) != min(b, minute) {
				t.Fatal(minute, a, b)
			}
		}
	}
}

func wider(g *rand.Rand, s api.Span, lo, hi int) api.Span {
	return span(max(lo, s.Lo-g.Intn(3)), min(hi, s.Hi+g.Intn(3)))
}

// P1.8: wider errors and lags leave less for sure, and looser rules tell no more.
func TestWider(t *testing.T) {
	g := rand.New(rand.NewSource(5))
	for range tries {
		r, u := someRun(g), someRules(g)
		all := told(t, r, u)
		w := copyRun(r)
		w.Gauge = wider(g, w.Gauge, -api.MaxGauge, api.MaxGauge)
		for i := range w.Couples {
			w.Couples[i].Error = wider(g, w.Couples[i].Error, -api.MaxError, api.MaxError)
			w.Couples[i].Lag = wider(g, w.Couples[i].Lag, 0, api.MaxLate)
		}
		more := told(t, w, u)
		v := copyRules(u)
		v.Single += g.Intn(9)
		v.Press = wider(g, v.Press, -api.MaxPress, api.MaxPress)
		v.SingleFrom += g.Intn(2)
		v.PressFrom += g.Intn(2)
		for i := range v.Steps {
			v.Steps[i].Part += g.Intn(30)
		}
		less := told(t, r, v)
		for _, k := range keys(r) {
			if all[k] != api.KnownNo && more[k] == api.KnownNo || more[k] == api.KnownYes && all[k] != api.KnownYes {
				t.Fatal(k, all[k], more[k])
			}
			if less[k] > all[k] {
				t.Fatal(k, all[k], less[k])
			}
		}
	}
}

// P1.9: the couples in another order, each at its new place with the Id of this place.
func TestTurned(t *testing.T) {
	g := rand.New(rand.NewSource(6))
	for range tries {
		r, u := someRun(g), someRules(g)
		x := copyRun(r)
		places := g.Perm(len(r.Couples))
		for i, place := range places {
			id := r.Couples[place].Id
			x.Couples[place] = r.Couples[i]
			x.Couples[place].Id = id
			for m := range r.Rows {
				x.Rows[m].Degrees[place] = r.Rows[m].Degrees[i]
			}
		}
		a, b := told(t, r, u), told(t, x, u)
		for _, k := range keys(r) {
			turned := k
			if k.couple >= 0 {
				turned.couple = places[k.couple]
			}
			if a[k] != b[turned] {
				t.Fatal(k, a[k], b[turned])
			}
		}
		same(t, r, x, u)
	}
}

// same checks that nothing that is not of a single couple differs.
func same(t *testing.T, r, x api.Run, u api.Rules) {
	t.Helper()
	for minute := 0; minute <= len(r.Rows); minute++ {
		a, e := furnace.Mean(r, minute)
		if b, f := furnace.Mean(x, minute); a != b || e != f {
			t.Fatal(minute, a, e, b, f)
		}
		k, m, _ := furnace.Kept(r, u, minute)
		if k2, m2, e := furnace.Kept(x, u, minute); k != k2 || m != m2 || e != api.OK {
			t.Fatal(minute, k2, m2, e)
		}
	}
	a, _ := furnace.Counts(r, u)
	if b, e := furnace.Counts(x, u); a != b || e != api.OK {
		t.Fatal(a, b, e)
	}
}

// P1.9: a couple that is broken from the first minute on.
func TestBrokenFromTheFirst(t *testing.T) {
	g := rand.New(rand.NewSource(7))
	for range tries {
		r, u := someRun(g), someRules(g)
		for i := range r.Couples {
			r.Couples[i].Id = 2*i + 1
		}
		x := copyRun(r)
		place := g.Intn(len(r.Couples) + 1)
		x.Couples = slices.Insert(x.Couples, place, api.Couple{Id: 2 * place, Error: someSpan(g, -50, 50), Lag: someSpan(g, 0, 3), Breaks: 1})
		for i := range x.Rows {
			x.Rows[i].Degrees = slices.Insert(x.Rows[i].Degrees, place, g.Intn(2001))
		}
		if a, b := left(t, r, u), left(t, x, u); !slices.Equal(a, b) {
			t.Fatal(a, b)
		}
		same(t, r, x, u)
	}
}
