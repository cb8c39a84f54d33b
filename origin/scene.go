package origin

import (
	"cmp"
	"iter"
	"maps"
	"slices"

	"cottonpad/api"
)

// table is how long fire takes from each room to each one.
type table [api.MaxScene][api.MaxScene]time

// course is how fire can go: delays of all gates, and how far rooms are by them.
type course struct {
	delays []int
	far    table
}

// scene is a valid scene at work, with all of its courses, in the order of their delays.
type scene struct {
	api.Scene
	kinds   [api.MarkBefore + 1]kind
	courses []course
}

func atWork(s api.Scene) scene {
	x := scene{Scene: s, kinds: kinds()}
	for delays := range lists(s.Gates) {
		x.courses = append(x.courses, course{delays: delays, far: x.far(delays)})
	}
	return x
}

// lists yields all lists of delays of gates, in their order, each one in new memory.
func lists(gates []api.Gate) iter.Seq[[]int] {
	return func(yield func(delays []int) bool) {
		var delays []int
		for _, g := range gates {
			delays = append(delays, g.Delay.Lo)
		}
		for more := true; more; more = isNext(delays, gates) {
			if !yield(slices.Clone(delays)) {
				return
			}
		}
	}
}

// isNext makes delays those of the next list, and returns whether there is one.
func isNext(delays []int, gates []api.Gate) bool {
	for i := len(gates) - 1; i >= 0; i-- {
		if delays[i] < gates[i].Delay.Hi {
			delays[i]++
			return true
		}
		delays[i] = gates[i].Delay.Lo
	}
	return false
}

// far returns how far rooms are by some delays.
func (x scene) far(delays []int) table {
	var far table
	for a := range x.Rooms {
		for b := range x.Rooms {
			if a != b {
				far[a][b] = never
			}
		}
	}
	for i, g := range x.Gates {
		t := sooner(far[g.A][g.B], time{minutes: delays[i]})
		far[g.A][g.B], far[g.B][g.A] = t, t
	}
	for by := range x.Rooms {
		for a := range x.Rooms {
			for b := range x.Rooms {
				far[a][b] = sooner(far[a][b], far[a][by].and(far[by][b]))
			}
		}
	}
	return far
}

func sooner(a, b time) time {
	if b.isBefore(a) {
		return b
	}
	return a
}

// truth is delays, and all minutes in which a fire with them can have begun in some room.
type truth struct {
	delays  []int
	minutes api.Span
}

// truths yields all truths in which the fire began in a room, in the order of their delays, if just the marks of a set are asked.
func (x scene) truths(room, set int) iter.Seq[truth] {
	return func(yield func(t truth) bool) {
	courses:
		for _, c := range x.courses {
			minutes, far := upTo(x.End), c.far[room]
			for i, m := range x.Marks {
				if set&(1<<i) == 0 {
					continue
				}
				minutes = overlap(minutes, x.kinds[m.Kind].says(m, x.End, far[m.Room], far[m.Other]))
				if minutes.Lo > minutes.Hi {
					continue courses
				}
			}
			if !yield(truth{delays: c.delays, minutes: minutes}) {
				return
			}
		}
	}
}

// overlap returns the minutes that are in both spans: none of them if its Lo is above its Hi.
func overlap(a, b api.Span) api.Span { return api.Span{Lo: max(a.Lo, b.Lo), Hi: min(a.Hi, b.Hi)} }

// joined returns the numbers of all of some spans, as spans in increasing order, as few as there can be.
func joined(spans ...api.Span) []api.Span {
	var whole []api.Span
	byLo := func(a, b api.Span) int { return cmp.Compare(a.Lo, b.Lo) }
	for _, s := range slices.SortedFunc(slices.Values(spans), byLo) {
		last := len(whole) - 1
		if last >= 0 && s.Lo <= whole[last].Hi+1 {
			whole[last].Hi = max(whole[last].Hi, s.Hi)
		} else {
			whole = append(whole, s)
		}
	}
	return whole
}

// told returns the minutes that are told of each room that is not excluded.
func (x scene) told() map[int][]api.Span {
	told := map[int][]api.Span{}
	for room := range x.Rooms {
		var spans []api.Span
		for t := range x.truths(room, x.all()) {
			spans = append(spans, t.minutes)
		}
		told[room] = joined(spans...)
	}
	for room, minutes := range told {
		if len(minutes) == 0 {
			delete(told, room)
		}
	}
	return told
}

// rooms returns the rooms that are not excluded, in increasing order.
func (x scene) rooms() []int { return slices.Sorted(maps.Keys(x.told())) }

// truth returns the delays of the first truth in which the fire began in a room and a minute, and whether there is one.
func (x scene) truth(room, minute int) ([]int, bool) {
	t, found := first(x.truths(room, x.all()), func(t truth) bool { return within(t.minutes, minute) })
	return t.delays, found
}

// first returns the first thing of a list of which something is so, and whether there is one.
func first[T any](list iter.Seq[T], isSo func(thing T) bool) (one T, found bool) {
	for thing := range list {
		if isSo(thing) {
			return thing, true
		}
	}
	return one, false
}
