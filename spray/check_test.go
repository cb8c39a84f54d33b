package spray_test

import (
	"math"
	"slices"
	"testing"

	"cottonpad/api"
	"cottonpad/spray"
)

// beyond are numbers that are far outside of all spans.
func beyond() []int {
	return []int{math.MinInt, math.MinInt + 1, math.MinInt32 - 1, math.MaxInt32 + 1, math.MaxInt - 1, math.MaxInt}
}

// isZero returns whether a lack is what is returned beside an error.
func isZero(l api.Lack) bool { return l.Known == 0 && l.Head == 0 && len(l.Out) == 0 }

func expectFlows(t *testing.T, name any, n api.Net, open []int, want api.Errno) {
	t.Helper()
	if list, e := spray.Flows(n, open); e != want || e != api.OK && len(list) > 0 || e == api.OK && len(list) != len(n.Pipes) {
		t.Error(name, "Flows", open, list, e, want)
	}
}

func expectPress(t *testing.T, name any, n api.Net, open, out []int, want api.Errno) {
	t.Helper()
	if list, e := spray.Press(n, open, out); e != want || e != api.OK && len(list) > 0 || e == api.OK && len(list) != len(open) {
		t.Error(name, "Press", open, out, list, e, want)
	}
}

func expectGets(t *testing.T, name any, n api.Net, open []int, want api.Errno) {
	t.Helper()
	if l, e := spray.Gets(n, open); e != want || e != api.OK && !isZero(l) {
		t.Error(name, "Gets", open, l, e, want)
	}
}

func expectFire(t *testing.T, name any, n api.Net, heats [][]int, want api.Errno) {
	t.Helper()
	if sure, may, l, e := spray.Fire(n, heats); e != want || e != api.OK && (len(sure) > 0 || len(may) > 0 || !isZero(l)) {
		t.Error(name, "Fire", heats, sure, may, l, e, want)
	}
}

func expectBursts(t *testing.T, name any, h api.Head, heat []int, want api.Errno) {
	t.Helper()
	if first, last, e := spray.Bursts(h, heat); e != want || e != api.OK && (first != 0 || last != 0) {
		t.Error(name, "Bursts", first, last, e, want)
	}
}

// expect checks the error of all functions with a net; what is wrong with it comes before the other arguments.
func expect(t *testing.T, name any, n api.Net, want api.Errno) {
	t.Helper()
	if e := spray.Check(n); e != want {
		t.Error(name, "Check", e, want)
	}
	if many, list, e := spray.Most(n); e != want || e != api.OK && (many != 0 || len(list) > 0) {
		t.Error(name, "Most", many, list, e)
	}
	cold := make([][]int, len(n.Heads))
	expectFlows(t, name, n, nil, want)
	expectPress(t, name, n, nil, nil, want)
	expectGets(t, name, n, nil, want)
	expectFire(t, name, n, cold, want)
	arg, heat := want, want
	if want == api.OK {
		arg, heat = api.ErrArg, api.ErrHeat
	}
	expectFlows(t, name, n, []int{-1}, arg)
	expectPress(t, name, n, []int{-1}, nil, arg)
	expectPress(t, name, n, nil, []int{-1}, arg)
	expectGets(t, name, n, []int{-1}, arg)
	expectFire(t, name, n, append(cold, []int{-1}), arg)
	expectFire(t, name, n, append([][]int{{-1}}, cold...), arg)
	if len(cold) > 0 {
		cold[0] = []int{-1}
		expectFire(t, name, n, cold, heat)
	}
}

// last are the last ones of the pipes, heads and pumps of a net, which change with it.
func last[T any](list []T) *T { return &list[len(list)-1] }

// P5.1, R5 and R6: each number of a net, and of a head by itself, at its bounds, beyond them, and far beyond them.
func TestBounds(t *testing.T) {
	for _, b := range []struct {
		name   string
		field  func(n *api.Net) *int
		lo, hi int
	}{
		{"from", func(n *api.Net) *int { return &n.Pipes[2].From }, 0, 2},
		{"from of the first one", func(n *api.Net) *int { return &n.Pipes[0].From }, 0, 0},
		{"to", func(n *api.Net) *int { return &n.Pipes[2].To }, 3, 3},
		{"to of the first one", func(n *api.Net) *int { return &n.Pipes[0].To }, 1, 1},
		{"id", func(n *api.Net) *int { return &n.Heads[0].Id }, 0, 8},
		{"id of the last one", func(n *api.Net) *int { return &n.Heads[1].Id }, 6, 9999},
		{"node", func(n *api.Net) *int { return &n.Heads[0].Node }, 1, 3},
		{"node of the last one", func(n *api.Net) *int { return &n.Heads[1].Node }, 1, 3},
		{"need", func(n *api.Net) *int { return &n.Heads[1].Need }, 1, 500},
		{"least", func(n *api.Net) *int { return &n.Heads[1].Least }, 0, 100000},
		{"slope", func(n *api.Net) *int { return &n.Pumps[1].Slope }, 0, 100},
		{"out", func(n *api.Net) *int { return &n.Out }, 0, 1},
		{"minutes", func(n *api.Net) *int { return &n.Minutes }, 0, 600},
	} {
		set := func(to int) api.Net { return with(example(), func(n *api.Net) { *b.field(n) = to }) }
		for to := b.lo; to <= b.hi; to += max(1, (b.hi-b.lo)/3) {
			expect(t, b.name, set(to), api.OK)
		}
		expect(t, b.name, set(b.hi), api.OK)
		for _, to := range append(beyond(), b.lo-1, b.hi+1) {
			expect(t, b.name, set(to), api.ErrNet)
		}
	}
}

// P5.1, R5 and R6: each span of a net at its bounds, beyond them, and with Lo above Hi.
func TestBoundsOfSpans(t *testing.T) {
	for _, b := range []struct {
		name  string
		field func(n *api.Net) *api.Span
		hi    int
	}{
		{"foul", func(n *api.Net) *api.Span { return &n.Pipes[0].Foul }, 1000},
		{"foul of the last one", func(n *api.Net) *api.Span { return &last(n.Pipes).Foul }, 1000},
		{"bulb", func(n *api.Net) *api.Span { return &n.Heads[0].Bulb }, 2000},
		{"bulb of the last one", func(n *api.Net) *api.Span { return &last(n.Heads).Bulb }, 2000},
		{"slow", func(n *api.Net) *api.Span { return &n.Heads[0].Slow }, 10},
		{"slow of the last one", func(n *api.Net) *api.Span { return &last(n.Heads).Slow }, 10},
		{"full", func(n *api.Net) *api.Span { return &n.Pumps[0].Full }, 100000},
		{"full of the last one", func(n *api.Net) *api.Span { return &last(n.Pumps).Full }, 100000},
		{"tank", func(n *api.Net) *api.Span { return &n.Tank }, 1000000},
	} {
		check := func(lo, hi int, want api.Errno) {
			t.Helper()
			expect(t, b.name, with(example(), func(n *api.Net) { *b.field(n) = span(lo, hi) }), want)
		}
		for _, s := range []api.Span{span(0, 0), span(0, 1), span(7, 7), span(0, b.hi), span(b.hi-1, b.hi), span(b.hi, b.hi)} {
			check(s.Lo, s.Hi, api.OK)
		}
		for _, s := range []api.Span{span(1, 0), span(7, 6), span(b.hi, 0), span(b.hi, b.hi-1)} {
			check(s.Lo, s.Hi, api.ErrNet)
		}
		for _, n := range append(beyond(), -1, b.hi+1) {
			check(n, n, api.ErrNet)
			check(n, b.hi, api.ErrNet)
			check(0, n, api.ErrNet)
			check(n, 0, api.ErrNet)
		}
	}
}

// cut is the greatest net with just so many of each list.
func cut(pipes, heads, pumps int) api.Net {
	n := greatest()
	n.Pipes, n.Heads, n.Pumps = n.Pipes[:pipes], n.Heads[:heads], n.Pumps[:pumps]
	n.Out = max(0, pumps-1)
	for i := range n.Heads {
		n.Heads[i].Node = max(1, pipes)
	}
	return n
}

// P5.1: how many pipes, heads and pumps there may be, and how they are numbered.
func TestCheck(t *testing.T) {
	for pipes := 0; pipes <= api.MaxPipes; pipes++ {
		for heads := 0; heads <= api.MaxHeads; heads += 4 {
			for pumps := 0; pumps <= api.MaxPumps; pumps++ {
				want := api.OK
				if pipes == 0 || heads == 0 || pumps == 0 {
					want = api.ErrNet
				}
				expect(t, []int{pipes, heads, pumps}, cut(pipes, heads, pumps), want)
			}
		}
	}
	for i, x := range []struct {
		change func(n *api.Net)
		e      api.Errno
	}{
		{func(n *api.Net) {}, api.OK},
		{func(n *api.Net) { *n = api.Net{} }, api.ErrNet},
		{func(n *api.Net) { n.Pipes = append(n.Pipes, api.Pipe{From: 0, To: 13}) }, api.ErrNet},
		{func(n *api.Net) { n.Pipes = slices.Repeat(n.Pipes, 500) }, api.ErrNet},
		{func(n *api.Net) {
			for i := range n.Heads {
				n.Heads[i].Id = i
			}
			n.Heads = append(n.Heads, api.Head{Id: 8, Node: 1, Need: 1})
		}, api.ErrNet},
		{func(n *api.Net) { n.Heads = slices.Repeat(n.Heads, 500) }, api.ErrNet},
		{func(n *api.Net) { n.Pumps = append(n.Pumps, api.Pump{}) }, api.ErrNet},
		{func(n *api.Net) { n.Pumps = slices.Repeat(n.Pumps, 500) }, api.ErrNet},
		{func(n *api.Net) { n.Pumps = n.Pumps[:3] }, api.ErrNet},
		{func(n *api.Net) { n.Pumps, n.Out = n.Pumps[:3], 2 }, api.OK},
		{func(n *api.Net) { n.Pipes = n.Pipes[:11] }, api.ErrNet},
		{func(n *api.Net) { n.Heads[3], n.Heads[4] = n.Heads[4], n.Heads[3] }, api.ErrNet},
		{func(n *api.Net) { n.Heads[4].Id = n.Heads[3].Id }, api.ErrNet},
		{func(n *api.Net) { slices.Reverse(n.Heads) }, api.ErrNet},
		{func(n *api.Net) { n.Heads[0].Id = 0 }, api.OK},
		{func(n *api.Net) { n.Pipes[3], n.Pipes[4] = n.Pipes[4], n.Pipes[3] }, api.ErrNet},
		{func(n *api.Net) { n.Pipes[4].From = 0 }, api.OK},
		{func(n *api.Net) { n.Pipes[4].From = 5 }, api.ErrNet},
		{func(n *api.Net) { n.Pipes[4].From = 6 }, api.ErrNet},
	} {
		expect(t, i, with(greatest(), x.change), x.e)
	}
}

// P5.1, P5.2 and R5: lists of heads that are not open ones.
func TestOpen(t *testing.T) {
	lists := [][]int{{5, 5}, {9, 9}, {9, 5}, {5, 9, 9}, {5, 5, 9}, {0}, {4}, {6}, {10}, {5, 6}, {5, 7, 9}, {0, 5, 9}, {5, 9, 10}, {-5}, {-1, 5}, {1}, {2}, {5, 9, 5, 9}, slices.Repeat([]int{5}, 5000)}
	for _, n := range beyond() {
		lists = append(lists, []int{n}, []int{n, 5}, []int{5, n}, []int{5, 9, n})
	}
	for i, open := range lists {
		expectFlows(t, i, example(), open, api.ErrArg)
		expectPress(t, i, example(), open, nil, api.ErrArg)
		expectPress(t, i, example(), open, []int{0}, api.ErrArg)
		expectGets(t, i, example(), open, api.ErrArg)
	}
	for i, open := range [][]int{nil, {}, {5}, {9}, {5, 9}} {
		expectFlows(t, i, example(), open, api.OK)
		expectPress(t, i, example(), open, nil, api.OK)
		expectGets(t, i, example(), open, api.OK)
	}
}

// P5.1 and R5: pumps that may be out, as many as Out among them, and lists that are none.
func TestOut(t *testing.T) {
	four := greatest()
	for most := range 4 {
		four.Out = most
		for i, out := range subsets([]int{0, 1, 2, 3}) {
			want := api.OK
			if len(out) > most {
				want = api.ErrArg
			}
			expectPress(t, i, four, ids(four), out, want)
			expectPress(t, i, four, nil, out, want)
		}
	}
	lists := [][]int{{-1}, {4}, {0, 0}, {3, 3}, {1, 0}, {0, 4}, {-1, 0}, {0, 2, 1}, {0, 1, 1}, {0, 0, 1}, slices.Repeat([]int{0}, 5000)}
	for _, n := range beyond() {
		lists = append(lists, []int{n}, []int{n, 1}, []int{1, n}, []int{0, 1, n})
	}
	for i, out := range lists {
		expectPress(t, i, four, ids(four), out, api.ErrArg)
		expectPress(t, i, four, nil, out, api.ErrArg)
		expectPress(t, i, with(four, func(n *api.Net) { n.Minutes = -1 }), nil, out, api.ErrNet)
	}
	expectPress(t, "both", four, []int{-1}, []int{-1}, api.ErrArg)
}

// P5.3, R5 and R6: heads that would not be valid with their node in any net.
func TestBoundsOfHead(t *testing.T) {
	head := func() api.Head {
		return api.Head{Id: 5, Node: 2, Need: 80, Least: 500, Bulb: span(66, 70), Slow: span(0, 1)}
	}
	check := func(name any, want api.Errno, change func(h *api.Head)) {
		t.Helper()
		h := head()
		change(&h)
		heat := want
		if want == api.OK {
			heat = api.ErrHeat
		}
		for _, list := range [][]int{nil, {}, {0}, {2000, 70}} {
			expectBursts(t, name, h, list, want)
		}
		for _, list := range [][]int{{-1}, {2001}, {70, -1}, make([]int, 61)} {
			expectBursts(t, name, h, list, heat)
		}
	}
	check("head", api.OK, func(h *api.Head) {})
	check("empty", api.ErrNet, func(h *api.Head) { *h = api.Head{} })
	for _, b := range []struct {
		name   string
		field  func(h *api.Head) *int
		lo, hi int
	}{
		{"id", func(h *api.Head) *int { return &h.Id }, 0, 9999},
		{"node", func(h *api.Head) *int { return &h.Node }, 1, 12},
		{"need", func(h *api.Head) *int { return &h.Need }, 1, 500},
		{"least", func(h *api.Head) *int { return &h.Least }, 0, 100000},
	} {
		for _, to := range []int{b.lo, b.lo + 1, b.hi - 1, b.hi} {
			check(b.name, api.OK, func(h *api.Head) { *b.field(h) = to })
		}
		for _, to := range append(beyond(), b.lo-1, b.hi+1) {
			check(b.name, api.ErrNet, func(h *api.Head) { *b.field(h) = to })
		}
	}
	for _, b := range []struct {
		name  string
		field func(h *api.Head) *api.Span
		hi    int
	}{
		{"bulb", func(h *api.Head) *api.Span { return &h.Bulb }, 2000},
		{"slow", func(h *api.Head) *api.Span { return &h.Slow }, 10},
	} {
		for _, s := range []api.Span{span(0, 0), span(0, b.hi), span(b.hi, b.hi)} {
			check(b.name, api.OK, func(h *api.Head) { *b.field(h) = s })
		}
		for _, n := range append(beyond(), -1, b.hi+1) {
			for _, s := range []api.Span{span(n, n), span(n, b.hi), span(0, n), span(n, 0), span(1, 0), span(b.hi, b.hi-1)} {
				check(b.name, api.ErrNet, func(h *api.Head) { *b.field(h) = s })
			}
		}
	}
}

// P5.3, P5.4 and R5: numbers of heat at their bounds and beyond them, and how many there may be.
func TestHeat(t *testing.T) {
	check := func(heat []int, want api.Errno) {
		t.Helper()
		n := example()
		for _, h := range n.Heads {
			expectBursts(t, heat, h, heat, want)
		}
		expectFire(t, heat, n, [][]int{heat, nil}, want)
		expectFire(t, heat, n, [][]int{nil, heat}, want)
		expectFire(t, heat, n, [][]int{heat, heat}, want)
		expectFire(t, heat, n, [][]int{heat}, api.ErrArg)
		expectFire(t, heat, n, [][]int{heat, heat, heat}, api.ErrArg)
		n.Out = 2
		expectFire(t, heat, n, [][]int{heat, heat}, api.ErrNet)
	}
	for _, n := range []int{0, 1, 66, 1999, 2000} {
		check([]int{n}, api.OK)
		check([]int{70, n, 70}, api.OK)
	}
	for _, n := range append(beyond(), -1, 2001) {
		check([]int{n}, api.ErrHeat)
		check([]int{n, 70}, api.ErrHeat)
		check([]int{70, 70, n}, api.ErrHeat)
	}
	for count, want := range map[int]api.Errno{0: api.OK, 1: api.OK, 59: api.OK, 60: api.OK, 61: api.ErrHeat, 5000: api.ErrHeat} {
		check(make([]int, count), want)
		check(slices.Repeat([]int{2000}, count), want)
	}
	expectFire(t, "none", example(), nil, api.ErrArg)
	expectFire(t, "none", example(), [][]int{}, api.ErrArg)
	expectFire(t, "many", example(), make([][]int, 5000), api.ErrArg)
}
