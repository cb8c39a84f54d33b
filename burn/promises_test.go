package burn_test

import (
	"math/rand"
	"slices"
	"testing"

	"cottonpad/api"
	"cottonpad/burn"
)

// allHeats returns all that the heat of a second may be with a lag, each number once.
func (x fire) allHeats(second, lag int) []int {
	var list []int
	for base := x.h.Base.Lo; base <= x.h.Base.Hi; base++ {
		for wrong := -x.h.Drift; wrong <= x.h.Drift; wrong++ {
			for flow := x.h.Flow.Lo; flow <= x.h.Flow.Hi; flow++ {
				for joule := x.h.Joule.Lo; joule <= x.h.Joule.Hi; joule++ {
					list = append(list, joule*flow*max(0, base-x.r[second+lag]-wrong))
				}
			}
		}
	}
	slices.Sort(list)
	return slices.Compact(list)
}

// truths calls a function with the heats of all seconds, of each truth once.
func (x fire) truths(see func(heats []int)) {
	for lag := x.h.Lag.Lo; lag <= x.h.Lag.Hi; lag++ {
		var choices [][]int
		for s := range x.seconds() {
			choices = append(choices, x.allHeats(s, lag))
		}
		product(choices, nil, see)
	}
}

// product calls a function with each list of one number of each choice.
func product(choices [][]int, begun []int, see func(list []int)) {
	if len(begun) == len(choices) {
		see(begun)
		return
	}
	for _, n := range choices[len(begun)] {
		product(choices, append(begun, n), see)
	}
}

// P4.1, P4.2, P4.5 and N4: heats and sums are the least and the greatest ones of all truths.
func TestHeatsOfAllTruths(t *testing.T) {
	g := rand.New(rand.NewSource(1))
	wide := 0
	for range 500 {
		x := small(g)
		n := x.seconds()
		var sums [4][4]ends
		x.truths(func(heats []int) {
			for from := range n + 1 {
				for to := from; to <= n; to++ {
					sums[from][to].see(sumOf(heats[from:to]))
				}
			}
		})
		for from := range n + 1 {
			for to := from; to <= n; to++ {
				want := sums[from][to].s
				if s := x.sum(t, from, to); s != want {
					t.Fatal(from, to, s, want, x)
				}
				if to != from+1 {
					continue
				}
				if s := x.heat(t, from); s != want {
					t.Fatal(from, s, want, x)
				}
				if want.Lo > 0 && want.Hi > want.Lo {
					wide++
				}
			}
		}
	}
	if wide < 100 {
		t.Error("too few spans", wide)
	}
}

// P4.3 and P4.7: first seconds are the least and the greatest ones of all truths in which there is one, and a lower level is reached no later in each of them.
func TestFirstOfAllTruths(t *testing.T) {
	g := rand.New(rand.NewSource(2))
	known, wide := map[uint8]int{}, 0
	for range 500 {
		x := small(g)
		level := between(g, 1, between(g, 1, 60))
		lower := between(g, 1, level)
		var first ends
		all, reached := 0, 0
		x.truths(func(heats []int) {
			all++
			second := firstOf(heats, level)
			if second < 0 {
				return
			}
			reached++
			first.see(second)
			if earlier := firstOf(heats, lower); earlier < 0 || earlier > second {
				t.Fatal(heats, lower, level)
			}
		})
		want := uint8(api.KnownOpen)
		if reached == 0 {
			want = api.KnownNo
		} else if reached == all {
			want = api.KnownYes
		}
		if s, is := x.first(t, level); s != first.s || is != want {
			t.Fatal(level, s, is, first.s, want, x)
		}
		known[want]++
		if first.s.Lo < first.s.Hi {
			wide++
		}
	}
	if known[0] < 50 || known[1] < 50 || known[2] < 50 || wide < 50 {
		t.Error("too few of one kind", known, wide)
	}
}

// P4.5 and N4: in each truth of any fire heats and sums are in what is told.
func TestHeatsOfSomeTruths(t *testing.T) {
	g := rand.New(rand.NewSource(3))
	for range 400 {
		x := some(g)
		n := x.seconds()
		from := between(g, 0, n)
		to := between(g, from, n)
		sum := x.sum(t, from, to)
		var told []api.Span
		for s := range n {
			told = append(told, x.heat(t, s))
		}
		for range 10 {
			heats := x.heats(x.someTruth(g))
			for s, heat := range heats {
				if !inside(span(heat, heat), told[s]) {
					t.Fatal(s, heat, told[s], x)
				}
			}
			if n := sumOf(heats[from:to]); !inside(span(n, n), sum) {
				t.Fatal(from, to, n, sum, x)
			}
		}
	}
}

// P4.1, P4.2 and P4.5: both ends come about.
func TestEndsOfHeatsComeAbout(t *testing.T) {
	g := rand.New(rand.NewSource(4))
	for range 400 {
		x := some(g)
		n := x.seconds()
		from := between(g, 0, n)
		to := between(g, from, n)
		var sum ends
		heats := make([]ends, n)
		for lag := x.h.Lag.Lo; lag <= x.h.Lag.Hi; lag++ {
			for _, hot := range []int{0, n} {
				list := x.heats(x.hotFrom(lag, hot))
				sum.see(sumOf(list[from:to]))
				for s, heat := range list {
					heats[s].see(heat)
				}
			}
		}
		if s := x.sum(t, from, to); s != sum.s {
			t.Fatal(from, to, s, sum.s, x)
		}
		for second := range n {
			if s := x.heat(t, second); s != heats[second].s {
				t.Fatal(second, s, heats[second].s, x)
			}
		}
	}
}

// someLevel is a level that is near to a heat that is told, or just there.
func someLevel(t *testing.T, g *rand.Rand, x fire) int {
	t.Helper()
	if x.seconds() == 0 || g.Intn(10) == 0 {
		return between(g, 1, 1000000000)
	}
	s := x.heat(t, g.Intn(x.seconds()))
	return max(1, []int{s.Lo, s.Hi, between(g, s.Lo, s.Hi)}[g.Intn(3)]+between(g, -1, 1))
}

// P4.7: the first second that reaches a level is in what is told, in each truth, and both ends come about.
func TestFirstOfSomeTruths(t *testing.T) {
	g := rand.New(rand.NewSource(5))
	known := map[uint8]int{}
	for range 600 {
		x := some(g)
		level := someLevel(t, g, x)
		first, is := x.first(t, level)
		known[is]++
		for range 10 {
			second := firstOf(x.heats(x.someTruth(g)), level)
			if second < 0 && is == api.KnownYes || second >= 0 && (is == api.KnownNo || !inside(span(second, second), first)) {
				t.Fatal(level, second, first, is, x)
			}
		}
		var found ends
		never := false
		for lag := x.h.Lag.Lo; lag <= x.h.Lag.Hi; lag++ {
			for hot := range x.seconds() + 1 {
				second := firstOf(x.heats(x.hotFrom(lag, hot)), level)
				never = never || second < 0
				if second >= 0 {
					found.see(second)
				}
			}
		}
		if first != found.s || (is != api.KnownNo) != found.seen || (is != api.KnownYes) != never {
			t.Fatal(level, first, is, found, never, x)
		}
	}
	if known[0] < 20 || known[1] < 100 || known[2] < 100 {
		t.Error("too few of one kind", known)
	}
}

// P4.6: sums of two times are within the sum of both spans, and just these if the lag is known.
func TestSumsClose(t *testing.T) {
	g := rand.New(rand.NewSource(6))
	less, equal := 0, 0
	for range 500 {
		x := some(g)
		if g.Intn(3) == 0 {
			x.h.Lag.Hi = x.h.Lag.Lo
		}
		n := x.seconds()
		list := []int{between(g, 0, n), between(g, 0, n), between(g, 0, n)}
		slices.Sort(list)
		both := plus(x.sum(t, list[0], list[1]), x.sum(t, list[1], list[2]))
		all := x.sum(t, list[0], list[2])
		if !inside(all, both) || x.h.Lag.Lo == x.h.Lag.Hi && all != both {
			t.Fatal(list, all, both, x)
		}
		if all != both {
			less++
		} else if list[0] < list[1] && list[1] < list[2] {
			equal++
		}
		for second := range n {
			if a, b := x.sum(t, second, second+1), x.heat(t, second); a != b {
				t.Fatal(second, a, b, x)
			}
			if s := x.sum(t, second, second); s != (api.Span{}) {
				t.Fatal(second, s, x)
			}
		}
	}
	if less < 50 || equal < 50 {
		t.Error("too few of one kind", less, equal)
	}
}

// P4.7: a level that is lower is reached no later, and no less surely.
func TestLowerLevels(t *testing.T) {
	g := rand.New(rand.NewSource(7))
	sooner, surer := 0, 0
	for range 800 {
		x := some(g)
		a, b := someLevel(t, g, x), someLevel(t, g, x)
		low, lowKnown := x.first(t, min(a, b))
		high, highKnown := x.first(t, max(a, b))
		if lowKnown < highKnown {
			t.Fatal(a, b, lowKnown, highKnown, x)
		}
		if highKnown != api.KnownNo && low.Lo > high.Lo || highKnown == api.KnownYes && low.Hi > high.Hi {
			t.Fatal(a, b, low, high, x)
		}
		if highKnown != api.KnownNo && low.Lo < high.Lo {
			sooner++
		}
		if lowKnown > highKnown {
			surer++
		}
	}
	if sooner < 50 || surer < 50 {
		t.Error("too few of one kind", sooner, surer)
	}
}

// P4.7: before the first second that is told none reaches the level; that one may, and so may the last one.
func TestNoneBefore(t *testing.T) {
	g := rand.New(rand.NewSource(8))
	later := 0
	for range 500 {
		x := some(g)
		level := someLevel(t, g, x)
		first, known := x.first(t, level)
		if known == api.KnownNo {
			first.Lo = x.seconds()
		} else if x.heat(t, first.Lo).Hi < level || x.heat(t, first.Hi).Hi < level {
			t.Fatal(level, first, x)
		}
		for second := range first.Lo {
			if x.heat(t, second).Hi >= level {
				t.Fatal(level, second, first, x)
			}
		}
		if known != api.KnownNo && first.Lo > 0 {
			later++
		}
	}
	if later < 50 {
		t.Error("too few", later)
	}
}

// wider returns a fire that knows less of one thing.
func (x fire) wider(g *rand.Rand) (y fire, lagged bool) {
	spans := []struct {
		s    *api.Span
		most int
	}{{&x.h.Base, api.MaxOxygen}, {&x.h.Flow, api.MaxDraft}, {&x.h.Joule, api.MaxJoule}, {&x.h.Lag, api.MaxDelay}}
	which := g.Intn(5)
	if which == 4 {
		x.h.Drift = between(g, x.h.Drift, api.MaxDrift)
		return x, false
	}
	w := spans[which]
	hi := w.s.Hi
	w.s.Lo = between(g, max(0, w.s.Lo-500), w.s.Lo)
	w.s.Hi = between(g, w.s.Hi, min(w.most, w.s.Hi+500))
	return x, which == 3 && w.s.Hi > hi
}

// P4.8: with a wider span of anything, or a greater drift, no span becomes narrower, and nothing is known more surely.
func TestWider(t *testing.T) {
	g := rand.New(rand.NewSource(9))
	more, firsts, lags := 0, 0, 0
	for range 1500 {
		x := some(g)
		y, lagged := x.wider(g)
		n := y.seconds()
		for second := range n {
			if a, b := x.heat(t, second), y.heat(t, second); !inside(a, b) {
				t.Fatal(second, a, b, x, y)
			} else if a != b {
				more++
			}
		}
		from := between(g, 0, n)
		to := between(g, from, n)
		if a, b := x.sum(t, from, to), y.sum(t, from, to); !inside(a, b) {
			t.Fatal(from, to, a, b, x, y)
		}
		level := someLevel(t, g, x)
		if lagged && n == 0 {
			continue
		} else if lagged {
			// With a greater lag there are fewer seconds of heat, and what is told of the first one is told of these.
			x.r = x.r[:n+x.h.Lag.Hi]
			lags++
		}
		a, known := x.first(t, level)
		b, less := y.first(t, level)
		if known != api.KnownNo && !inside(a, b) || less != known && less != api.KnownOpen {
			t.Fatal(level, a, known, b, less, x, y)
		}
		if known != api.KnownNo && a != b {
			firsts++
		}
	}
	if more < 1000 || firsts < 50 || lags < 50 {
		t.Error("too few of one kind", more, firsts, lags)
	}
}

// P4.8: so it is with a lamp of which less is known.
func TestWiderLamp(t *testing.T) {
	g := rand.New(rand.NewSource(10))
	more := 0
	for range 500 {
		x := someLamp(g, 1000, 12)
		y := x
		y.l = api.Lamp{Before: between(g, x.l.Before, 2*x.l.Before), After: between(g, 1, x.l.After)}
		for second := range x.r {
			if a, b := x.clean(t, second), y.clean(t, second); !inside(a, b) {
				t.Fatal(second, a, b, x, y)
			}
			if a, b := x.dark(t, second), y.dark(t, second); !inside(a, b) {
				t.Fatal(second, a, b, x, y)
			}
		}
		if a, b := x.smoke(t, 0, len(x.r)), y.smoke(t, 0, len(x.r)); !inside(a, b) {
			t.Fatal(a, b, x, y)
		} else if a != b {
			more++
		}
	}
	if more < 100 {
		t.Error("too few", more)
	}
}

// isTruth returns whether numbers are a truth of lights, by the words of the chapter.
func (x glow) isTruth(clean []int) bool {
	for i, n := range clean {
		if n < x.l.After || n > x.l.Before || n < x.r[i] || i > 0 && n > clean[i-1] {
			return false
		}
	}
	return true
}

// P4.4, P4.9 and N4: all ways in which a lamp may foul.
func TestLampInAllTruths(t *testing.T) {
	g := rand.New(rand.NewSource(11))
	wide := 0
	for range 400 {
		x := someLamp(g, 7, 4)
		n := len(x.r)
		clean, dark := make([]ends, n), make([]ends, n)
		var smoke [5][5]ends
		var each []int
		for number := 1; number <= x.l.Before; number++ {
			each = append(each, number)
		}
		product(slices.Repeat([][]int{each}, n), nil, func(list []int) {
			if !x.isTruth(list) {
				return
			}
			var darks []int
			for i, number := range list {
				darks = append(darks, 1000-1000*x.r[i]/number)
				clean[i].see(number)
				dark[i].see(darks[i])
			}
			for from := range n + 1 {
				for to := from; to <= n; to++ {
					smoke[from][to].see(sumOf(darks[from:to]))
				}
			}
		})
		for second := range n {
			if a, b := x.clean(t, second), x.dark(t, second); a != clean[second].s || b != dark[second].s || !clean[second].seen {
				t.Fatal(second, a, b, clean[second], dark[second], x)
			}
		}
		for from := range n + 1 {
			for to := from; to <= n; to++ {
				want := smoke[from][to].s
				if s := x.smoke(t, from, to); s != want {
					t.Fatal(from, to, s, want, x)
				}
				if to > from+1 && want.Lo < want.Hi {
					wide++
				}
			}
		}
	}
	if wide < 100 {
		t.Error("too few", wide)
	}
}

// fouls is any way in which a lamp may foul.
func (x glow) fouls(g *rand.Rand) []int {
	list := make([]int, len(x.r))
	least := x.l.After
	for i := range list {
		list[i] = between(g, x.l.After, x.l.Before)
	}
	slices.Sort(list)
	slices.Reverse(list)
	for i := len(list) - 1; i >= 0; i-- {
		least = max(least, x.r[i])
		list[i] = max(list[i], least)
	}
	return list
}

// P4.9: in each way smoke is in what is told, and both ends come about.
func TestLampInSomeTruths(t *testing.T) {
	g := rand.New(rand.NewSource(12))
	for range 300 {
		x := someLamp(g, api.MaxLight, api.MaxReads)
		n := len(x.r)
		if g.Intn(3) > 0 {
			for i := range x.r {
				x.r[i] = x.r[i] * (n - i) / n
			}
		}
		from := between(g, 0, n)
		to := between(g, from, n)
		smoke := x.smoke(t, from, to)
		least, most := make([]int, n), slices.Repeat([]int{x.l.Before}, n)
		for second := range n {
			least[second] = x.clean(t, second).Lo
			if most[second] != x.clean(t, second).Hi {
				t.Fatal(second, x)
			}
			// Clean air is never darker than what came through later.
			if later := slices.Max(x.r[second:]); least[second] < later {
				t.Fatal(second, least[second], later, x)
			}
		}
		var ends ends
		for i, list := range [][]int{least, most, x.fouls(g), x.fouls(g), x.fouls(g)} {
			if !x.isTruth(list) {
				t.Fatal(list, x)
			}
			sum := 0
			for second := from; second < to; second++ {
				dark := 1000 - 1000*x.r[second]/list[second]
				if !inside(span(dark, dark), x.dark(t, second)) || !inside(span(list[second], list[second]), x.clean(t, second)) {
					t.Fatal(second, dark, list[second], x)
				}
				sum += dark
			}
			if i < 2 {
				ends.see(sum)
			}
			if !inside(span(sum, sum), smoke) {
				t.Fatal(sum, smoke, x)
			}
		}
		if smoke != ends.s {
			t.Fatal(smoke, ends, x)
		}
	}
}

// P4.4: smoke of two times, one after the other, is just that of both, and that of one second is its dark.
func TestSmokeCloses(t *testing.T) {
	g := rand.New(rand.NewSource(13))
	for range 300 {
		x := someLamp(g, 1000, 20)
		n := len(x.r)
		list := []int{between(g, 0, n), between(g, 0, n), between(g, 0, n)}
		slices.Sort(list)
		if a, b := plus(x.smoke(t, list[0], list[1]), x.smoke(t, list[1], list[2])), x.smoke(t, list[0], list[2]); a != b {
			t.Fatal(list, a, b, x)
		}
		for second := range n {
			if a, b := x.smoke(t, second, second+1), x.dark(t, second); a != b {
				t.Fatal(second, a, b, x)
			}
			if s, e := burn.Smoke(x.l, x.r, second, second); s != (api.Span{}) || e != api.OK {
				t.Fatal(second, s, e)
			}
		}
	}
}
