package spray

import (
	"slices"

	"cottonpad/api"
)

// within returns whether all of some numbers are in a span.
func within(s api.Span, numbers ...int) bool {
	for _, n := range numbers {
		if n < s.Lo || n > s.Hi {
			return false
		}
	}
	return true
}

// upTo are all numbers from 0 to one.
func upTo(greatest int) api.Span { return api.Span{Lo: 0, Hi: greatest} }

// oneTo are all numbers from 1 to one.
func oneTo(greatest int) api.Span { return api.Span{Lo: 1, Hi: greatest} }

// isSpan returns whether a span is one of numbers from 0 to one.
func isSpan(s api.Span, greatest int) bool {
	return within(upTo(greatest), s.Lo, s.Hi) && s.Lo <= s.Hi
}

func isNet(n api.Net) bool {
	return arePipes(n.Pipes) &&
		areHeads(n.Heads, len(n.Pipes)) &&
		arePumps(n.Pumps) &&
		within(upTo(len(n.Pumps)-1), n.Out) &&
		isSpan(n.Tank, api.MaxTank) &&
		within(upTo(api.MaxMinute), n.Minutes)
}

func arePipes(pipes []api.Pipe) bool {
	if !within(oneTo(api.MaxPipes), len(pipes)) {
		return false
	}
	for i, p := range pipes {
		if p.To != i+1 || !within(upTo(i), p.From) || !isSpan(p.Foul, api.MaxFoul) {
			return false
		}
	}
	return true
}

// areHeads returns whether heads are valid in a net with so many pipes.
func areHeads(heads []api.Head, pipes int) bool {
	if !within(oneTo(api.MaxHeads), len(heads)) {
		return false
	}
	for i, h := range heads {
		if !isHead(h, pipes) || i > 0 && h.Id <= heads[i-1].Id {
			return false
		}
	}
	return true
}

func isHead(h api.Head, pipes int) bool {
	return within(upTo(api.MaxId), h.Id) &&
		within(oneTo(pipes), h.Node) &&
		within(oneTo(api.MaxNeed), h.Need) &&
		within(upTo(api.MaxBar), h.Least) &&
		isSpan(h.Bulb, api.MaxDegree) &&
		isSpan(h.Slow, api.MaxSlow)
}

func arePumps(pumps []api.Pump) bool {
	if !within(oneTo(api.MaxPumps), len(pumps)) {
		return false
	}
	for _, p := range pumps {
		if !isSpan(p.Full, api.MaxBar) || !within(upTo(api.MaxSlope), p.Slope) {
			return false
		}
	}
	return true
}

func isHeat(heat []int) bool {
	return len(heat) <= api.MaxHeats && within(upTo(api.MaxDegree), heat...)
}

func isIncreasing(list []int) bool {
	for i, n := range list {
		if i > 0 && n <= list[i-1] {
			return false
		}
	}
	return true
}

// areOpen returns whether a list is one of open heads of a valid net.
func areOpen(n api.Net, open []int) bool {
	for _, id := range open {
		if !slices.ContainsFunc(n.Heads, func(h api.Head) bool { return h.Id == id }) {
			return false
		}
	}
	return isIncreasing(open)
}

// areOut returns whether a list is one of pumps that are out, of a valid net.
func areOut(n api.Net, out []int) bool {
	return len(out) <= n.Out && within(upTo(len(n.Pumps)-1), out...) && isIncreasing(out)
}
