package exits

import (
	"cmp"
	"iter"
	"slices"

	"cottonpad/api"
)

// escape is a building at work, with people who leave it, all of them valid.
type escape struct {
	api.Building
	people []api.Walker
}

func begin(b api.Building, people []api.Walker) escape {
	return escape{Building: b, people: people}
}

// end is one of both ends of a truth: what is taken of the spans of waits and walks, which people take, and of those of paces and smoke, which give them time.
type end struct {
	takes func(s api.Span) int
	gives func(s api.Span) int
}

// ends returns the end at which people are soonest and smoke is latest, and that at which people are latest and smoke is soonest.
//
// If somebody comes to a stair later, then neither the first one, nor the second one, and so on, leaves it sooner: all of these times are least in one truth, and greatest in another one.
func ends() (best, worst end) {
	lo := func(s api.Span) int { return s.Lo }
	hi := func(s api.Span) int { return s.Hi }
	return end{takes: lo, gives: hi}, end{takes: hi, gives: lo}
}

// inOrder returns times in increasing order, in new memory.
func inOrder[T cmp.Ordered](times []T) []T {
	return slices.Sorted(slices.Values(times))
}

// divideUp divides a number that is not below 0, and rounds up.
func divideUp(n, by int) int { return (n + by - 1) / by }

// taking tells how long somebody takes to leave the chamber, at an end.
func (x escape) taking(at end) func(w api.Walker) int {
	return func(w api.Walker) int {
		return at.takes(w.Wait) + divideUp(x.Chambers[w.Chamber].Way, at.gives(w.Pace))
	}
}

// coming returns the times at which people come to each stair out of chambers, at an end.
func (x escape) coming(at end) map[int][]int {
	coming, takes := map[int][]int{}, x.taking(at)
	for _, w := range x.people {
		stair := x.Chambers[w.Chamber].Stair
		coming[stair] = append(coming[stair], takes(w))
	}
	return coming
}

// stairs yields each stair with the times at which people come to it, in their order, at an end. All who come to a stair come out of chambers, or from stairs that are yielded before it.
func (x escape) stairs(at end) iter.Seq2[int, []int] {
	return func(yield func(stair int, come []int) bool) {
		coming := x.coming(at)
		for stair := range len(x.Stairs) {
			come := inOrder(coming[stair])
			delete(coming, stair)
			if !yield(stair, come) {
				return
			}
			next := x.Stairs[stair].Next
			coming[next] = append(coming[next], x.leaving(stair, come, at)...)
		}
	}
}

// leaving returns when those leave a stair who come to it at some times, in their order, at an end.
func (x escape) leaving(stair int, come []int, at end) []int {
	var leave []int
	s, free := x.Stairs[stair], 0
	for _, time := range come {
		enter := max(time, free)
		free = enter + s.Gap
		leave = append(leave, enter+at.takes(s.Walk))
	}
	return leave
}

// leavingAll returns when all who come to a stair leave it, in their order, at an end.
func (x escape) leavingAll(stair int, at end) []int {
	var leave []int
	for i, come := range x.stairs(at) {
		if i == stair {
			leave = x.leaving(stair, come, at)
			break
		}
	}
	return leave
}

// leaves returns the least and the greatest time at which the first one, the second one, and so on, leaves a stair.
func (x escape) leaves(stair int) []api.Span {
	best, worst := ends()
	soonest, latest := x.leavingAll(stair, best), x.leavingAll(stair, worst)
	var spans []api.Span
	for i := range soonest {
		spans = append(spans, api.Span{Lo: soonest[i], Hi: latest[i]})
	}
	return spans
}

// last returns when the last one is out at an end, 0 if there are no people.
func (x escape) last(at end) int {
	last := 0
	for stair, come := range x.stairs(at) {
		if x.Stairs[stair].Next == api.Outside && len(come) > 0 {
			last = max(last, slices.Max(x.leaving(stair, come, at)))
		}
	}
	return last
}

// out returns the least and the greatest time at which the last one is out.
func (x escape) out() api.Span {
	best, worst := ends()
	return api.Span{Lo: x.last(best), Hi: x.last(worst)}
}
