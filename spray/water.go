package spray

import (
	"slices"

	"cottonpad/api"
)

// water is a net at work, with some heads open, all of them valid.
type water struct {
	api.Net
	open  []api.Head
	flows []int // of all pipes
	flow  int
}

func begin(n api.Net, open []int) water {
	w := water{Net: n, flows: make([]int, len(n.Pipes))}
	var up func(node, need int)
	up = func(node, need int) {
		if node == 0 {
			w.flow += need
			return
		}
		w.flows[node-1] += need
		up(n.Pipes[node-1].From, need)
	}
	for _, h := range n.Heads {
		if slices.Contains(open, h.Id) {
			w.open = append(w.open, h)
			up(h.Node, h.Need)
		}
	}
	return w
}

// end is one of both ends of what is true: what is taken of the spans of pumps and the tank, which give water, and of those of pipes, which take pressure.
type end struct {
	gives func(s api.Span) int
	takes func(s api.Span) int
}

// ends returns the end with the least pressure and water, and that with the most.
func ends() [2]end {
	lo := func(s api.Span) int { return s.Lo }
	hi := func(s api.Span) int { return s.Hi }
	return [2]end{{gives: lo, takes: hi}, {gives: hi, takes: lo}}
}

// least returns the least one of some pressures, of which there is at least one.
func least(pressures ...int) int { return slices.Min(pressures) }

// divideUp divides a number that is not below 0, and rounds up.
func divideUp(n, by int) int { return (n + by - 1) / by }

// pumped returns the pressure of the pumps, with some of them out, at an end.
func (w water) pumped(out map[int]bool, at end) int {
	share := divideUp(w.flow, len(w.Pumps)-len(out))
	var pressures []int
	for i, p := range w.Pumps {
		if !out[i] {
			pressures = append(pressures, at.gives(p.Full)-p.Slope*share)
		}
	}
	return least(pressures...)
}

// reaching returns the pressures of all open heads, with some pumps out, at an end.
func (w water) reaching(out map[int]bool, at end) []int {
	nodes := []int{w.pumped(out, at)}
	for i, p := range w.Pipes {
		loss := divideUp(at.takes(p.Foul)*w.flows[i]*w.flows[i], api.Whole)
		nodes = append(nodes, nodes[p.From]-loss)
	}
	var heads []int
	for _, h := range w.open {
		heads = append(heads, nodes[h.Node])
	}
	return heads
}

// pressures returns the least and the greatest pressure of each open head, with some pumps out.
func (w water) pressures(out map[int]bool) []api.Span {
	at := ends()
	low, high := w.reaching(out, at[0]), w.reaching(out, at[1])
	var spans []api.Span
	for i := range w.open {
		spans = append(spans, api.Span{Lo: low[i], Hi: high[i]})
	}
	return spans
}

// lack is who lacks water, if anybody does: a head by its Id, or the tank.
type lack struct {
	is  bool
	who int
}

// enough is that nobody lacks water.
var enough = lack{is: false, who: 0}

// lacks returns the first head that lacks its water with some pumps out, at an end, and otherwise the tank, if it does not last.
func (w water) lacks(out map[int]bool, at end) lack {
	for i, pressure := range w.reaching(out, at) {
		if h := w.open[i]; pressure < h.Least {
			return lack{is: true, who: h.Id}
		}
	}
	if at.gives(w.Tank) < w.flow*w.Minutes {
		return lack{is: true, who: api.TheTank}
	}
	return enough
}

// gets returns whether all open heads get their water, and the tank lasts, or what may lack it first.
func (w water) gets() api.Lack {
	told, may := api.Lack{Known: api.KnownYes}, false
states:
	for out := range outs(w.Net) {
		// What lacks water at the end with the most lacks it at the one with the least, too, which comes first.
		for _, at := range ends() {
			l := w.lacks(out, at)
			may = may || l == enough
			if l != enough && told.Known == api.KnownYes {
				told = api.Lack{Known: api.KnownNo, Head: l.who, Out: listOf(out)}
			}
			if told.Known == api.KnownNo && may {
				told.Known = api.KnownOpen
				// No state that comes later changes what is told.
				break states
			}
		}
	}
	return told
}

// most returns how many heads may be open such that nothing lacks water, whichever ones, and the first ones, one more, with which something may.
func most(n api.Net) (many int, lacks []int) {
	many = len(n.Heads)
	for set := range 1 << len(n.Heads) {
		open := idsOf(n.Heads, set)
		if begin(n, open).gets().Known == api.KnownYes {
			continue
		}
		if lacks == nil || before(open, lacks) {
			many, lacks = len(open)-1, open
		}
	}
	return many, lacks
}
