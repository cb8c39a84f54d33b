package spray_test

import (
	"math/bits"
	"math/rand"
	"slices"
	"testing"

	"cottonpad/api"
	"cottonpad/spray"
)

func span(lo, hi int) api.Span { return api.Span{Lo: lo, Hi: hi} }

// example is the net of the chapter's examples.
func example() api.Net {
	return api.Net{
		Pipes: []api.Pipe{{From: 0, To: 1, Foul: span(10, 20)}, {From: 1, To: 2, Foul: span(0, 50)}, {From: 1, To: 3, Foul: span(100, 100)}},
		Heads: []api.Head{
			{Id: 5, Node: 2, Need: 80, Least: 500, Bulb: span(66, 70), Slow: span(0, 1)},
			{Id: 9, Node: 3, Need: 100, Least: 400, Bulb: span(141, 145), Slow: span(2, 2)},
		},
		Pumps:   []api.Pump{{Full: span(3000, 3100), Slope: 5}, {Full: span(3500, 3500), Slope: 10}},
		Out:     1,
		Tank:    span(6000, 7000),
		Minutes: 30,
	}
}

// copyOf returns a net in memory of its own.
func copyOf(n api.Net) api.Net {
	n.Pipes, n.Heads, n.Pumps = slices.Clone(n.Pipes), slices.Clone(n.Heads), slices.Clone(n.Pumps)
	return n
}

// with returns a copy with a change.
func with(n api.Net, change func(n *api.Net)) api.Net {
	n = copyOf(n)
	change(&n)
	return n
}

func flows(t *testing.T, n api.Net, open ...int) []int {
	t.Helper()
	list, e := spray.Flows(n, open)
	if e != api.OK {
		t.Fatal("Flows", open, e, n)
	}
	return list
}

func press(t *testing.T, n api.Net, open, out []int) []api.Span {
	t.Helper()
	list, e := spray.Press(n, open, out)
	if e != api.OK {
		t.Fatal("Press", open, out, e, n)
	}
	return list
}

func gets(t *testing.T, n api.Net, open ...int) api.Lack {
	t.Helper()
	l, e := spray.Gets(n, open)
	if e != api.OK {
		t.Fatal("Gets", open, e, n)
	}
	return l
}

func most(t *testing.T, n api.Net) (int, []int) {
	t.Helper()
	many, list, e := spray.Most(n)
	if e != api.OK {
		t.Fatal("Most", e, n)
	}
	return many, list
}

func bursts(t *testing.T, h api.Head, heat ...int) [2]int {
	t.Helper()
	first, last, e := spray.Bursts(h, heat)
	if e != api.OK {
		t.Fatal("Bursts", h, heat, e)
	}
	return [2]int{first, last}
}

func same(a, b api.Lack) bool {
	return a.Known == b.Known && a.Head == b.Head && slices.Equal(a.Out, b.Out)
}

func ids(n api.Net) []int {
	var list []int
	for _, h := range n.Heads {
		list = append(list, h.Id)
	}
	return list
}

// subsets are all lists of some of a list: the shorter ones first, of as many the one with the less thing where they differ first.
func subsets(list []int) [][]int {
	var all [][]int
	for set := range 1 << len(list) {
		part := make([]int, 0, bits.OnesCount(uint(set)))
		for i, n := range list {
			if set>>i&1 == 1 {
				part = append(part, n)
			}
		}
		all = append(all, part)
	}
	slices.SortFunc(all, func(a, b []int) int {
		if len(a) != len(b) {
			return len(a) - len(b)
		}
		return slices.Compare(a, b)
	})
	return all
}

// states are all lists of pumps that may be out, in their order.
func states(n api.Net) [][]int {
	var pumps []int
	for i := range n.Pumps {
		pumps = append(pumps, i)
	}
	return slices.DeleteFunc(subsets(pumps), func(out []int) bool { return len(out) > n.Out })
}

// truth is pumps that are out, a number of each Full and of each Foul, and one of Tank.
type truth struct {
	out, full, foul []int
	tank            int
}

// way are the indices of the pipes from a node to the pumps.
func way(n api.Net, node int) []int {
	var list []int
	for ; node > 0; node = n.Pipes[node-1].From {
		list = append(list, node-1)
	}
	return list
}

// carried is the flow of a pipe.
func carried(n api.Net, open []int, pipe int) int {
	flow := 0
	for _, h := range n.Heads {
		if slices.Contains(open, h.Id) && slices.Contains(way(n, h.Node), pipe) {
			flow += h.Need
		}
	}
	return flow
}

func needed(n api.Net, open []int) int {
	flow := 0
	for _, h := range n.Heads {
		if slices.Contains(open, h.Id) {
			flow += h.Need
		}
	}
	return flow
}

func roundedUp(n, by int) int {
	if n%by > 0 {
		return n/by + 1
	}
	return n / by
}

// pressure is that of a head in a truth.
func (u truth) pressure(n api.Net, open []int, h api.Head) int {
	share := roundedUp(needed(n, open), len(n.Pumps)-len(u.out))
	var pumps []int
	for i, p := range n.Pumps {
		if !slices.Contains(u.out, i) {
			pumps = append(pumps, u.full[i]-p.Slope*share)
		}
	}
	pressure := slices.Min(pumps)
	for _, i := range way(n, h.Node) {
		flow := carried(n, open, i)
		pressure -= roundedUp(u.foul[i]*flow*flow, 1000)
	}
	return pressure
}

// lacking are the open heads that lack their water in a truth, and the tank if it does not last.
func (u truth) lacking(n api.Net, open []int) []int {
	var list []int
	for _, h := range n.Heads {
		if slices.Contains(open, h.Id) && u.pressure(n, open, h) < h.Least {
			list = append(list, h.Id)
		}
	}
	if u.tank < needed(n, open)*n.Minutes {
		list = append(list, api.TheTank)
	}
	return list
}

// truths calls a function with all truths with some pumps out.
func truths(n api.Net, out []int, see func(u truth)) {
	var spans []api.Span
	for _, p := range n.Pumps {
		spans = append(spans, p.Full)
	}
	for _, p := range n.Pipes {
		spans = append(spans, p.Foul)
	}
	choices(append(spans, n.Tank), nil, func(list []int) {
		pumps, rest := len(n.Pumps), len(list)-1
		see(truth{out: out, full: list[:pumps], foul: list[pumps:rest], tank: list[rest]})
	})
}

// choices calls a function with each list of one number of each span.
func choices(spans []api.Span, begun []int, see func(list []int)) {
	if len(begun) == len(spans) {
		see(begun)
		return
	}
	s := spans[len(begun)]
	for i := s.Lo; i <= s.Hi; i++ {
		choices(spans, append(begun, i), see)
	}
}

// pick is a truth with a number of each span.
func pick(n api.Net, out []int, of func(s api.Span, gives bool) int) truth {
	u := truth{out: out, tank: of(n.Tank, true)}
	for _, p := range n.Pumps {
		u.full = append(u.full, of(p.Full, true))
	}
	for _, p := range n.Pipes {
		u.foul = append(u.foul, of(p.Foul, false))
	}
	return u
}

func someTruth(g *rand.Rand, n api.Net, out []int) truth {
	return pick(n, out, func(s api.Span, _ bool) int { return between(g, s.Lo, s.Hi) })
}

func worst(n api.Net, out []int) truth {
	return pick(n, out, func(s api.Span, gives bool) int {
		if gives {
			return s.Lo
		}
		return s.Hi
	})
}

func best(n api.Net, out []int) truth {
	return pick(n, out, func(s api.Span, gives bool) int {
		if gives {
			return s.Hi
		}
		return s.Lo
	})
}

func between(g *rand.Rand, lo, hi int) int { return lo + g.Intn(hi-lo+1) }

// someSpan is one from lo to hi that is at most so wide.
func someSpan(g *rand.Rand, lo, hi, wide int) api.Span {
	n := between(g, lo, hi)
	return span(n, min(hi, n+between(g, 0, wide)))
}

func someOf[T any](g *rand.Rand, list []T) T { return list[g.Intn(len(list))] }

// someOpen are some of the heads of a net.
func someOpen(g *rand.Rand, n api.Net) []int { return someOf(g, subsets(ids(n))) }

// scale is how large numbers of a net are, and how wide its spans.
type scale struct{ pipes, heads, pumps, need, foul, full, slope, wide int }

// small are nets of which all truths can be gone through.
func small() scale {
	return scale{pipes: 3, heads: 3, pumps: 3, need: 6, foul: 300, full: 40, slope: 3, wide: 1}
}

func large() scale {
	return scale{pipes: api.MaxPipes, heads: api.MaxHeads, pumps: api.MaxPumps, need: 40, foul: 40, full: 8000, slope: 40, wide: 400}
}

func huge() scale {
	return scale{pipes: api.MaxPipes, heads: api.MaxHeads, pumps: api.MaxPumps, need: api.MaxNeed, foul: api.MaxFoul, full: api.MaxBar, slope: api.MaxSlope, wide: api.MaxBar}
}

// some is any valid net of a scale, with what is needed near to what there is.
func (s scale) some(g *rand.Rand) api.Net {
	n := api.Net{Minutes: between(g, 0, 40)}
	for i := range between(g, 1, s.pipes) {
		n.Pipes = append(n.Pipes, api.Pipe{From: between(g, 0, i), To: i + 1, Foul: someSpan(g, 0, s.foul, s.wide)})
	}
	id := 0
	for range between(g, 1, s.heads) {
		h := api.Head{
			Id: id + between(g, 0, 3), Node: between(g, 1, len(n.Pipes)), Need: between(g, 1, s.need), Least: between(g, 0, s.full/2),
			Bulb: someSpan(g, 60, 200, 20), Slow: someSpan(g, 0, api.MaxSlow, 3),
		}
		id = h.Id + 1
		n.Heads = append(n.Heads, h)
	}
	for range between(g, 1, s.pumps) {
		n.Pumps = append(n.Pumps, api.Pump{Full: someSpan(g, s.full/2, s.full, s.wide), Slope: between(g, 0, s.slope)})
	}
	n.Out = between(g, 0, len(n.Pumps)-1)
	wanted := min(api.MaxTank, needed(n, ids(n))*n.Minutes)
	n.Tank = someSpan(g, max(0, wanted-between(g, 0, 50)), min(api.MaxTank, wanted+50), s.wide)
	return n
}

// poised is such a net with open heads, some of which ask just for what there is, or for one more or less.
func (s scale) poised(g *rand.Rand, t *testing.T) (api.Net, []int) {
	t.Helper()
	n := s.some(g)
	open := someOpen(g, n)
	if g.Intn(2) == 0 {
		open = ids(n)
	}
	list := states(n)
	if g.Intn(2) == 0 {
		// All heads ask for what they have with the same pumps out, and nothing else is scarce.
		list = list[g.Intn(len(list)):][:1]
		n.Tank = span(api.MaxTank, api.MaxTank)
	}
	for i, id := range open {
		p := press(t, n, open, someOf(g, list))[i]
		least := someOf(g, []int{p.Lo, p.Lo, p.Hi, between(g, p.Lo, p.Hi)}) + between(g, -1, 1)
		n.Heads[slices.Index(ids(n), id)].Least = min(api.MaxBar, max(0, least))
	}
	return n, open
}

func someHeat(g *rand.Rand, minutes int) []int {
	var list []int
	degree := 20
	for range minutes {
		degree = max(0, degree+between(g, -10, 30))
		list = append(list, degree)
	}
	return list
}
