package spray_test

import (
	"math/rand"
	"slices"
	"testing"

	"cottonpad/api"
	"cottonpad/spray"
)

// ends are the least and the greatest of some numbers that are seen one by one.
type ends struct {
	s    api.Span
	seen bool
}

func (e *ends) see(n int) {
	if !e.seen {
		e.s, e.seen = span(n, n), true
	}
	e.s = span(min(e.s.Lo, n), max(e.s.Hi, n))
}

// wanted is what Gets has to return, by all truths.
func wanted(n api.Net, open []int) api.Lack {
	want := api.Lack{Known: api.KnownYes}
	may := false
	for _, out := range states(n) {
		short := map[int]bool{}
		truths(n, out, func(u truth) {
			list := u.lacking(n, open)
			may = may || len(list) == 0
			for _, id := range list {
				short[id] = true
			}
		})
		if len(short) == 0 || want.Known != api.KnownYes {
			continue
		}
		want = api.Lack{Known: api.KnownNo, Head: api.TheTank, Out: out}
		for id := range short {
			if id >= 0 && (want.Head < 0 || id < want.Head) {
				want.Head = id
			}
		}
	}
	if want.Known == api.KnownNo && may {
		want.Known = api.KnownOpen
	}
	return want
}

// P5.1, P5.6 and N5: pressures are the least and the greatest ones of all truths.
func TestPressuresOfAllTruths(t *testing.T) {
	g := rand.New(rand.NewSource(1))
	wide, out := 0, 0
	for range 1000 {
		n := small().some(g)
		open := someOpen(g, n)
		for _, state := range states(n) {
			found := make([]ends, len(open))
			truths(n, state, func(u truth) {
				i := 0
				for _, h := range n.Heads {
					if slices.Contains(open, h.Id) {
						found[i].see(u.pressure(n, open, h))
						i++
					}
				}
			})
			list := press(t, n, open, state)
			if len(list) != len(open) {
				t.Fatal(list, open)
			}
			for i, s := range list {
				if s != found[i].s {
					t.Fatal(s, found[i].s, open, state, n)
				}
				if s.Lo < s.Hi {
					wide++
				}
				if len(state) > 0 {
					out++
				}
			}
		}
	}
	if wide < 500 || out < 500 {
		t.Error("too few of one kind", wide, out)
	}
}

// P5.2, P5.6 and N5: what is known, and what is told to lack water, by all truths.
func TestGetsOfAllTruths(t *testing.T) {
	g := rand.New(rand.NewSource(2))
	known, tank, out := map[uint8]int{}, 0, map[int]int{}
	for range 1500 {
		n, open := small().poised(g, t)
		want, l := wanted(n, open), gets(t, n, open...)
		if !same(l, want) {
			t.Fatal(l, want, open, n)
		}
		known[l.Known]++
		out[len(l.Out)]++
		if l.Head == api.TheTank {
			tank++
		}
	}
	if known[0] < 100 || known[1] < 100 || known[2] < 100 || tank < 50 || out[1] < 50 || out[2] < 10 {
		t.Error("too few of one kind", known, tank, out)
	}
}

// P5.5 and P5.11: of all lists of heads, those that are short enough get their water in all truths, and the list that is told is the first one that may not.
func TestMostOfAllTruths(t *testing.T) {
	g := rand.New(rand.NewSource(3))
	counts, all := map[int]int{}, 0
	for range 500 {
		n, _ := small().poised(g, t)
		want, list := len(n.Heads), []int(nil)
		for _, open := range subsets(ids(n)) {
			if wanted(n, open).Known != api.KnownYes {
				want, list = len(open)-1, open
				break
			}
		}
		many, lacks := most(t, n)
		if many != want || !slices.Equal(lacks, list) {
			t.Fatal(many, lacks, want, list, n)
		}
		counts[many]++
		if len(list) == 0 {
			all++
		}
	}
	if counts[0] < 50 || counts[1] < 50 || counts[2] < 20 || all < 50 {
		t.Error("too few of one kind", counts, all)
	}
}

// sizes are nets whose truths are too many to go through.
func sizes() []scale { return []scale{large(), large(), huge()} }

// P5.6 and N5: in each truth of any net pressures are in what is told, and both ends come about.
func TestPressuresOfSomeTruths(t *testing.T) {
	g := rand.New(rand.NewSource(4))
	for range 1000 {
		n := someOf(g, sizes()).some(g)
		open, out := someOpen(g, n), someOf(g, states(n))
		list := press(t, n, open, out)
		low, high, any := worst(n, out), best(n, out), someTruth(g, n, out)
		i := 0
		for _, h := range n.Heads {
			if !slices.Contains(open, h.Id) {
				continue
			}
			if s := span(low.pressure(n, open, h), high.pressure(n, open, h)); list[i] != s {
				t.Fatal(list[i], s, open, out, n)
			}
			if p := any.pressure(n, open, h); p < list[i].Lo || p > list[i].Hi {
				t.Fatal(list[i], p, open, out, n)
			}
			i++
		}
		if i != len(list) {
			t.Fatal(list, open)
		}
	}
}

// wantedByEnds is what Gets has to return, by those truths with all at its worst, or at its best.
func wantedByEnds(n api.Net, open []int) api.Lack {
	want := api.Lack{Known: api.KnownYes}
	may := false
	for _, out := range states(n) {
		may = may || len(best(n, out).lacking(n, open)) == 0
		if list := worst(n, out).lacking(n, open); len(list) > 0 && want.Known == api.KnownYes {
			want = api.Lack{Known: api.KnownNo, Head: list[0], Out: out}
		}
	}
	if want.Known == api.KnownNo && may {
		want.Known = api.KnownOpen
	}
	return want
}

// P5.2, P5.6 and N5: with any net, what is sure is so in each truth, and the head that is named lacks its water in one with the pumps out that are named, but in none with fewer of them.
func TestGetsOfSomeTruths(t *testing.T) {
	g := rand.New(rand.NewSource(5))
	known, out := map[uint8]int{}, map[int]int{}
	for range 8000 {
		n, open := someOf(g, sizes()).poised(g, t)
		l := gets(t, n, open...)
		if want := wantedByEnds(n, open); !same(l, want) {
			t.Fatal(l, want, open, n)
		}
		known[l.Known]++
		out[len(l.Out)]++
		for range 5 {
			u := someTruth(g, n, someOf(g, states(n)))
			list := u.lacking(n, open)
			if len(list) > 0 && l.Known == api.KnownYes || len(list) == 0 && l.Known == api.KnownNo {
				t.Fatal(l, u, list, open, n)
			}
		}
		if l.Known != api.KnownYes && !slices.Contains(worst(n, l.Out).lacking(n, open), l.Head) {
			t.Fatal(l, open, n)
		}
	}
	if known[0] < 100 || known[1] < 100 || known[2] < 100 || out[1] < 100 || out[2] < 20 || out[3] < 5 {
		t.Error("too few of one kind", known, out)
	}
}

// P5.7: with more heads open no head has more pressure, and what surely gets its water does so with fewer ones open.
func TestMoreHeads(t *testing.T) {
	g := rand.New(rand.NewSource(6))
	less, surer := 0, 0
	for range 1500 {
		n, more := someOf(g, append(sizes(), small())).poised(g, t)
		fewer := someOf(g, subsets(more))
		out := someOf(g, states(n))
		a, b := press(t, n, more, out), press(t, n, fewer, out)
		for i, id := range more {
			j := slices.Index(fewer, id)
			if j < 0 {
				continue
			}
			if a[i].Lo > b[j].Lo || a[i].Hi > b[j].Hi {
				t.Fatal(id, a[i], b[j], more, fewer, n)
			}
			if a[i].Lo < b[j].Lo {
				less++
			}
		}
		x, y := gets(t, n, more...).Known, gets(t, n, fewer...).Known
		if x > y {
			t.Fatal(x, y, more, fewer, n)
		}
		if x < y {
			surer++
		}
	}
	if less < 300 || surer < 300 {
		t.Error("too few of one kind", less, surer)
	}
}

// better changes something of a net so that there is more pressure, or water.
func better(g *rand.Rand, n api.Net) api.Net {
	cleaner := func(s *api.Span) {
		s.Lo = between(g, 0, s.Lo)
		s.Hi = between(g, s.Lo, s.Hi)
	}
	more := func(s *api.Span, most int) {
		s.Hi = between(g, s.Hi, min(most, s.Hi+300))
		s.Lo = between(g, s.Lo, s.Hi)
	}
	return with(n, func(n *api.Net) {
		switch g.Intn(4) {
		case 0:
			cleaner(&n.Pipes[g.Intn(len(n.Pipes))].Foul)
		case 1:
			more(&n.Pumps[g.Intn(len(n.Pumps))].Full, api.MaxBar)
		case 2:
			p := &n.Pumps[g.Intn(len(n.Pumps))]
			p.Slope = between(g, 0, p.Slope)
		case 3:
			more(&n.Tank, api.MaxTank)
		}
	})
}

// P5.8: with cleaner pipes, stronger pumps, or more water nothing is less sure.
func TestBetter(t *testing.T) {
	g := rand.New(rand.NewSource(7))
	surer, more := 0, 0
	for range 3000 {
		n, open := someOf(g, append(sizes(), small())).poised(g, t)
		m := better(g, n)
		x, y := gets(t, n, open...).Known, gets(t, m, open...).Known
		if x > y {
			t.Fatal(x, y, open, n, m)
		}
		if x < y {
			surer++
		}
		for _, out := range states(n) {
			a, b := press(t, n, open, out), press(t, m, open, out)
			for i := range open {
				if a[i].Lo > b[i].Lo || a[i].Hi > b[i].Hi {
					t.Fatal(a[i], b[i], open, out, n, m)
				}
			}
		}
		a, _ := most(t, n)
		b, _ := most(t, m)
		if a > b {
			t.Fatal(a, b, n, m)
		}
		if a < b {
			more++
		}
	}
	if surer < 100 || more < 100 {
		t.Error("too few of one kind", surer, more)
	}
}

// P5.8: what surely gets its water does so with fewer pumps that may be out; and so do as many heads.
func TestFewerOut(t *testing.T) {
	g := rand.New(rand.NewSource(8))
	surer, more := 0, 0
	for range 1500 {
		n, open := someOf(g, append(sizes(), small())).poised(g, t)
		m := with(n, func(m *api.Net) { m.Out = between(g, 0, n.Out) })
		x, y := gets(t, n, open...).Known, gets(t, m, open...).Known
		if x == api.KnownYes && y != api.KnownYes {
			t.Fatal(open, n, m)
		}
		if y == api.KnownYes && x != api.KnownYes {
			surer++
		}
		a, _ := most(t, n)
		b, _ := most(t, m)
		if a > b {
			t.Fatal(a, b, n, m)
		}
		if a < b {
			more++
		}
	}
	if surer < 50 || more < 50 {
		t.Error("too few of one kind", surer, more)
	}
}

// P5.9: what flows into a node flows out of it, by pipes or by heads; and what flows out of the node 0 is all that heads take.
func TestWaterIsConserved(t *testing.T) {
	g := rand.New(rand.NewSource(9))
	for range 1000 {
		n := someOf(g, append(sizes(), small())).some(g)
		open := someOpen(g, n)
		list := flows(t, n, open...)
		if len(list) != len(n.Pipes) {
			t.Fatal(list, n)
		}
		out := make([]int, len(n.Pipes)+1)
		for i, p := range n.Pipes {
			out[p.From] += list[i]
			if list[i] != carried(n, open, i) {
				t.Fatal(i, list, open, n)
			}
		}
		for _, h := range n.Heads {
			if slices.Contains(open, h.Id) {
				out[h.Node] += h.Need
			}
		}
		if out[0] != needed(n, open) || !slices.Equal(out[1:], list) {
			t.Fatal(out, list, open, n)
		}
	}
}

// minuteOf is that in which a bulb bursts in one truth, 0 if it does not.
func minuteOf(bulb, slow int, heat []int) int {
	for minute := 1; minute <= len(heat); minute++ {
		if heat[minute-1] < bulb {
			continue
		}
		if minute+slow > len(heat) {
			return 0
		}
		return minute + slow
	}
	return 0
}

// P5.3: minutes are the least and the greatest ones of all truths, and the last one is 0 if in one of them the bulb does not burst.
func TestMinutesOfAllTruths(t *testing.T) {
	g := rand.New(rand.NewSource(10))
	never, perhaps, sure := 0, 0, 0
	for range 2000 {
		h := large().some(g).Heads[0]
		heat := someHeat(g, between(g, 0, 25))
		var found ends
		whole := false
		choices([]api.Span{h.Bulb, h.Slow}, nil, func(list []int) {
			minute := minuteOf(list[0], list[1], heat)
			whole = whole || minute == 0
			if minute > 0 {
				found.see(minute)
			}
		})
		want := [2]int{found.s.Lo, found.s.Hi}
		if whole {
			want[1] = 0
		}
		if minutes := bursts(t, h, heat...); minutes != want {
			t.Fatal(minutes, want, h, heat)
		}
		switch {
		case want[0] == 0:
			never++
		case want[1] == 0:
			perhaps++
		default:
			sure++
		}
	}
	if never < 100 || perhaps < 100 || sure < 100 {
		t.Error("too few of one kind", never, perhaps, sure)
	}
}

// later returns whether a minute comes after another one; 0 is none, which comes after all.
func later(a, b int) bool {
	return b != 0 && (a == 0 || a > b)
}

// P5.10: a bulb that bursts at a lower temperature, or is faster, bursts no later; with a hotter fire none bursts later.
func TestNoLater(t *testing.T) {
	g := rand.New(rand.NewSource(11))
	sooner := map[int]int{}
	for range 3000 {
		h := large().some(g).Heads[0]
		heat := someHeat(g, between(g, 1, 25))
		k, hotter := h, slices.Clone(heat)
		kind := g.Intn(3)
		switch kind {
		case 0:
			k.Bulb.Lo = between(g, max(0, h.Bulb.Lo-20), h.Bulb.Lo)
			k.Bulb.Hi = between(g, k.Bulb.Lo, h.Bulb.Hi)
		case 1:
			k.Slow.Lo = between(g, 0, h.Slow.Lo)
			k.Slow.Hi = between(g, k.Slow.Lo, h.Slow.Hi)
		case 2:
			for i := range hotter {
				hotter[i] += between(g, 0, 10)
			}
		}
		a, b := bursts(t, h, heat...), bursts(t, k, hotter...)
		if later(b[0], a[0]) || later(b[1], a[1]) {
			t.Fatal(a, b, h, k, heat, hotter)
		}
		if later(a[0], b[0]) || later(a[1], b[1]) {
			sooner[kind]++
		}
	}
	if sooner[0] < 100 || sooner[1] < 100 || sooner[2] < 100 {
		t.Error("too few of one kind", sooner)
	}
}

// P5.4: heads by what Bursts tells of each one, and what Gets returns of those that may be open.
func TestFires(t *testing.T) {
	g := rand.New(rand.NewSource(12))
	known, some := map[uint8]int{}, 0
	for range 1000 {
		n, _ := someOf(g, sizes()).poised(g, t)
		var heats [][]int
		var sure, may []int
		for _, h := range n.Heads {
			heat := someHeat(g, between(g, 0, 25))
			heats = append(heats, heat)
			minutes := bursts(t, h, heat...)
			if minutes[0] > 0 {
				may = append(may, h.Id)
			}
			if minutes[1] > 0 {
				sure = append(sure, h.Id)
			}
		}
		want := gets(t, n, may...)
		a, b, l, e := spray.Fire(n, heats)
		if e != api.OK || !slices.Equal(a, sure) || !slices.Equal(b, may) || !same(l, want) {
			t.Fatal(a, b, l, e, sure, may, want, n, heats)
		}
		known[l.Known]++
		if len(sure) < len(may) && len(sure) > 0 {
			some++
		}
	}
	if known[0] < 50 || known[1] < 50 || known[2] < 50 || some < 100 {
		t.Error("too few of one kind", known, some)
	}
}

// P5.5, P5.7 and P5.11: with as many heads as are told, or fewer, whichever, all get their water; with those that are named they may not, and no list that comes earlier is so.
func TestMostOfSomeNets(t *testing.T) {
	g := rand.New(rand.NewSource(13))
	counts, all := map[int]int{}, 0
	for range 300 {
		n, _ := someOf(g, sizes()).poised(g, t)
		many, lacks := most(t, n)
		counts[many]++
		if len(lacks) == 0 {
			all++
			if many != len(n.Heads) {
				t.Fatal(many, n)
			}
		} else if len(lacks) != many+1 {
			t.Fatal(many, lacks, n)
		}
		for _, open := range subsets(ids(n)) {
			known := gets(t, n, open...).Known
			if slices.Equal(open, lacks) && len(lacks) > 0 {
				if known == api.KnownYes {
					t.Fatal(many, lacks, n)
				}
				break
			}
			if known != api.KnownYes {
				t.Fatal(many, lacks, open, n)
			}
		}
	}
	if counts[0] < 20 || counts[1] < 20 || counts[2] < 10 || counts[3] < 5 || all < 10 {
		t.Error("too few of one kind", counts, all)
	}
}
