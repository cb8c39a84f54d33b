package origin_test

import (
	"math/rand"
	"slices"
	"testing"

	"cottonpad/api"
	"cottonpad/origin"
)

func list(numbers ...int) []int { return numbers }

func span(lo, hi int) api.Span { return api.Span{Lo: lo, Hi: hi} }

func spans(s ...api.Span) []api.Span { return s }

func gate(a, b, lo, hi int) api.Gate { return api.Gate{A: a, B: b, Delay: span(lo, hi)} }

func clock(id, room, lo, hi int) api.Mark {
	return api.Mark{Id: id, Kind: api.MarkClock, Room: room, At: span(lo, hi)}
}

func clearAt(id, room, lo, hi int) api.Mark {
	return api.Mark{Id: id, Kind: api.MarkClear, Room: room, At: span(lo, hi)}
}

func burns(id, room, lo, hi int) api.Mark {
	return api.Mark{Id: id, Kind: api.MarkBurns, Room: room, At: span(lo, hi)}
}

func melt(id, room, long int) api.Mark {
	return api.Mark{Id: id, Kind: api.MarkMelt, Room: room, Long: long}
}

func whole(id, room, long int) api.Mark {
	return api.Mark{Id: id, Kind: api.MarkWhole, Room: room, Long: long}
}

func before(id, room, other int) api.Mark {
	return api.Mark{Id: id, Kind: api.MarkBefore, Room: room, Other: other}
}

// scene is one of the package api, with the words of the chapter as methods.
type scene struct{ api.Scene }

// house is a scene.
func house(rooms, end int, gates []api.Gate, marks ...api.Mark) scene {
	return scene{api.Scene{Rooms: rooms, End: end, Gates: gates, Marks: marks}}
}

func gates(g ...api.Gate) []api.Gate { return g }

// example is that of the chapter's examples.
func example() scene {
	return house(3, 30, gates(gate(0, 1, 2, 3), gate(1, 2, 4, 4)), clock(1, 2, 10, 12), clearAt(2, 0, 4, 5))
}

// copied is a scene in memory of its own.
func (s scene) copied() scene {
	s.Gates, s.Marks = slices.Clone(s.Gates), slices.Clone(s.Marks)
	return s
}

// with returns a copy with a change.
func (s scene) with(change func(s *scene)) scene {
	s = s.copied()
	change(&s)
	return s
}

// marked returns a copy with just these marks.
func (s scene) marked(marks ...api.Mark) scene {
	return s.with(func(s *scene) { s.Marks = slices.Clone(marks) })
}

// more returns a copy with marks more, the last ones of all.
func (s scene) more(marks ...api.Mark) scene {
	return s.with(func(s *scene) { s.Marks = append(s.Marks, marks...) })
}

// just returns a copy with just the marks that have these Ids.
func (s scene) just(ids []int) scene {
	return s.with(func(s *scene) {
		s.Marks = slices.DeleteFunc(s.Marks, func(m api.Mark) bool { return !slices.Contains(ids, m.Id) })
	})
}

func (s scene) minutes(t *testing.T, room int) []api.Span {
	t.Helper()
	spans, e := origin.Minutes(s.Scene, room)
	if e != api.OK {
		t.Fatal("Minutes", room, e, s)
	}
	return spans
}

func (s scene) rooms(t *testing.T) []int {
	t.Helper()
	rooms, e := origin.Rooms(s.Scene)
	if e != api.OK {
		t.Fatal("Rooms", e, s)
	}
	return rooms
}

// named returns the room that is named, or -1 and the error.
func (s scene) named(t *testing.T) (int, api.Errno) {
	t.Helper()
	room, e := origin.Named(s.Scene)
	if e != api.OK && e != api.ErrNone && e != api.ErrUntrue || e != api.OK && room != 0 {
		t.Fatal("Named", room, e, s)
	}
	if e != api.OK {
		return -1, e
	}
	return room, api.OK
}

// truth returns the delays of a truth, and whether there is one.
func (s scene) truth(t *testing.T, room, minute int) ([]int, bool) {
	t.Helper()
	delays, e := origin.Truth(s.Scene, room, minute)
	if e != api.OK && e != api.ErrUntrue || e != api.OK && len(delays) > 0 {
		t.Fatal("Truth", room, minute, delays, e, s)
	}
	return delays, e == api.OK
}

// why returns the marks that exclude a room, and whether it is excluded.
func (s scene) why(t *testing.T, room int) ([]int, bool) {
	t.Helper()
	ids, e := origin.Why(s.Scene, room)
	if e != api.OK && e != api.ErrBad || e != api.OK && len(ids) > 0 {
		t.Fatal("Why", room, ids, e, s)
	}
	return ids, e == api.OK
}

func (s scene) against(t *testing.T) []int {
	t.Helper()
	ids, e := origin.Against(s.Scene)
	if e != api.OK {
		t.Fatal("Against", ids, e, s)
	}
	return ids
}

func (s scene) ids() []int {
	var ids []int
	for _, m := range s.Marks {
		ids = append(ids, m.Id)
	}
	return ids
}

// never stands for when the fire comes into a room that it never comes into.
const never = -1

// ways calls a function with what each way from a room to another one takes, on which no room is twice.
func (s scene) ways(delays []int, from, to int, been []int, sum int, see func(sum int)) {
	if from == to {
		see(sum)
		return
	}
	for i, g := range s.Gates {
		for _, ends := range [][2]int{{g.A, g.B}, {g.B, g.A}} {
			if ends[0] == from && !slices.Contains(been, ends[1]) {
				s.ways(delays, ends[1], to, append(slices.Clone(been), ends[1]), sum+delays[i], see)
			}
		}
	}
}

// comes tells when a fire that begins in a room in the minute 0 comes into each room, by trying all ways.
func (s scene) comes(delays []int, room int) []int {
	var comes []int
	for to := range s.Rooms {
		least := never
		s.ways(delays, room, to, list(room), 0, func(sum int) {
			if least == never || sum < least {
				least = sum
			}
		})
		comes = append(comes, least)
	}
	return comes
}

// later are the minutes in which the fire comes into rooms, if it begins so much later.
func later(comes []int, minute int) []int {
	comes = slices.Clone(comes)
	for i := range comes {
		if comes[i] != never {
			comes[i] += minute
		}
	}
	return comes
}

// isSo tells whether a mark is so by the words of the chapter, by the minutes in which the fire comes into rooms.
func (s scene) isSo(m api.Mark, comes []int) bool {
	in, other := comes[m.Room], comes[m.Other]
	switch m.Kind {
	case api.MarkClock:
		return anyOf(m.At, func(minute int) bool { return in == minute })
	case api.MarkClear:
		return anyOf(m.At, func(minute int) bool { return in == never || in > minute })
	case api.MarkBurns:
		return anyOf(m.At, func(minute int) bool { return in != never && in <= minute })
	case api.MarkMelt:
		return in != never && s.End-in >= m.Long
	case api.MarkWhole:
		return in == never || s.End-in < m.Long || in > s.End
	case api.MarkBefore:
		return in != never && (other == never || other > in)
	}
	panic("no such kind")
}

func anyOf(s api.Span, isSo func(minute int) bool) bool {
	for minute := s.Lo; minute <= s.Hi; minute++ {
		if isSo(minute) {
			return true
		}
	}
	return false
}

// delays are all lists of delays, in their order.
func (s scene) delays() [][]int {
	lists := [][]int{nil}
	for _, g := range s.Gates {
		var longer [][]int
		for _, l := range lists {
			for d := g.Delay.Lo; d <= g.Delay.Hi; d++ {
				longer = append(longer, append(slices.Clone(l), d))
			}
		}
		lists = longer
	}
	return lists
}

// isTruth tells whether a room, a minute and delays are a truth.
func (s scene) isTruth(room, minute int, delays []int) bool {
	comes := later(s.comes(delays, room), minute)
	return !slices.ContainsFunc(s.Marks, func(m api.Mark) bool { return !s.isSo(m, comes) })
}

// all is what is so of a scene by trying each room, minute and list of delays.
type all struct {
	scene
	truths [api.MaxScene][][][]int    // the lists of each room and each minute that are a truth, in their order
	sets   [api.MaxScene]map[int]bool // which sets of marks are so together, as bits
}

func (s scene) tried() all {
	x := all{scene: s}
	lists := s.delays()
	for room := range s.Rooms {
		x.truths[room], x.sets[room] = make([][][]int, s.End+1), map[int]bool{}
		for _, delays := range lists {
			comes := s.comes(delays, room)
			for minute := range s.End + 1 {
				set, here := 0, later(comes, minute)
				for i, m := range s.Marks {
					if s.isSo(m, here) {
						set |= 1 << i
					}
				}
				x.sets[room][set] = true
				if set == 1<<len(s.Marks)-1 {
					x.truths[room][minute] = append(x.truths[room][minute], delays)
				}
			}
		}
	}
	return x
}

// minutes are those of a room that are a truth, one by one.
func (x all) minutes(room int) []int {
	var minutes []int
	for minute, lists := range x.truths[room] {
		if len(lists) > 0 {
			minutes = append(minutes, minute)
		}
	}
	return minutes
}

func (x all) rooms() []int {
	var rooms []int
	for room := range x.Rooms {
		if len(x.minutes(room)) > 0 {
			rooms = append(rooms, room)
		}
	}
	return rooms
}

// allows tells whether there is a truth with the fire in a room, if just the marks of these Ids count.
func (x all) allows(ids []int, room int) bool {
	asked := 0
	for i, m := range x.Marks {
		if slices.Contains(ids, m.Id) {
			asked |= 1 << i
		}
	}
	for set := range x.sets[room] {
		if set&asked == asked {
			return true
		}
	}
	return false
}

// excludes tells whether no truth has any one of some rooms, if just the marks of these Ids count.
func (x all) excludes(ids []int, rooms ...int) bool {
	return !slices.ContainsFunc(rooms, func(room int) bool { return x.allows(ids, room) })
}

// allRooms are all rooms that there are.
func (s scene) allRooms() []int {
	var rooms []int
	for room := range s.Rooms {
		rooms = append(rooms, room)
	}
	return rooms
}

// oneByOne are the numbers of spans.
func oneByOne(spans []api.Span) []int {
	var numbers []int
	for _, s := range spans {
		for n := s.Lo; n <= s.Hi; n++ {
			numbers = append(numbers, n)
		}
	}
	return numbers
}

// areFew tells whether spans are in increasing order, and as few as there can be.
func areFew(spans []api.Span) bool {
	for i, s := range spans {
		if s.Lo > s.Hi || i > 0 && s.Lo <= spans[i-1].Hi+1 {
			return false
		}
	}
	return true
}

// firstOf is the first one of the shortest lists of some Ids of which something is so, by trying one after the other, and how many there are that are as short.
func firstOf(ids []int, isSo func(ids []int) bool) (found []int, count int) {
	for length := range len(ids) + 1 {
		lists(ids, length, nil, func(list []int) {
			if isSo(list) {
				if count == 0 {
					found = slices.Clone(list)
				}
				count++
			}
		})
		if count > 0 {
			return found, count
		}
	}
	panic("there is no such list")
}

// lists calls a function with all lists of so many of some Ids, in their order.
func lists(ids []int, count int, begun []int, see func(list []int)) {
	if len(begun) == count {
		see(begun)
		return
	}
	for i, id := range ids {
		lists(ids[i+1:], count, append(slices.Clone(begun), id), see)
	}
}

func minus(ids, others []int) []int {
	return slices.DeleteFunc(slices.Clone(ids), func(id int) bool { return slices.Contains(others, id) })
}

func between(g *rand.Rand, lo, hi int) int { return lo + g.Intn(hi-lo+1) }

func someOf[T any](g *rand.Rand, list []T) T { return list[g.Intn(len(list))] }

// someIds are so many numbers from lo to hi, in increasing order, no one twice.
func someIds(g *rand.Rand, count, lo, hi int) []int {
	seen := map[int]bool{}
	for len(seen) < count {
		seen[between(g, lo, hi)] = true
	}
	var ids []int
	for id := range seen {
		ids = append(ids, id)
	}
	slices.Sort(ids)
	return ids
}

// size is how many things a scene may have, how great its numbers may be, how many marks of a hundred are so in one truth of it, and how many are so by at most one minute, or are not.
type size struct {
	rooms, gates, marks, goes, end, id, so, close int
	isStar                                        bool
}

// small are scenes in which much is the same.
func small() size {
	return size{rooms: 3, gates: 3, marks: 4, goes: 4, end: 6, id: 9, so: 70, close: 20}
}

func middle() size {
	return size{rooms: 4, gates: 4, marks: 6, goes: 6, end: 20, id: 20, so: 90, close: 20}
}

// wide are scenes with as many rooms, gates and marks as there may be.
func wide() size {
	return size{rooms: api.MaxScene, gates: api.MaxGates, marks: api.MaxMarks, goes: 9, end: 12, id: 30, so: 95}
}

// wrong are scenes of which few marks are so together.
func wrong() size {
	return size{rooms: 4, gates: 4, marks: 8, goes: 5, end: 12, id: 30, so: 50, close: 50}
}

// certain are scenes that have a truth.
func certain() size { return size{rooms: 5, gates: 5, marks: 8, goes: 5, end: 15, id: 99, so: 100} }

// closely are scenes of which each mark leaves much, and all of them little.
func closely() size {
	return size{rooms: 4, gates: 6, marks: 8, goes: 7, end: 20, id: 99, close: 100}
}

// star are scenes whose rooms are about as far from the first one, with marks of which several are needed.
func star() size {
	return size{rooms: api.MaxScene, gates: api.MaxGates, marks: api.MaxMarks, goes: 5, end: 9, id: 99, close: 90, isStar: true}
}

func huge() size {
	return size{rooms: api.MaxScene, gates: api.MaxGates, marks: api.MaxMarks, goes: api.MaxGoes, end: api.MaxMinute, id: api.MaxId, so: 95, close: 40}
}

func sizes() []size {
	return []size{small(), small(), middle(), wide(), wrong(), certain(), closely(), closely(), star()}
}

// some is any valid scene of a size.
func (z size) some(g *rand.Rand) scene {
	s := house(between(g, 1, z.rooms), between(g, 0, z.end), nil)
	if z.isStar {
		s.Rooms = z.rooms
	}
	s.Gates = z.someGates(g, s.Rooms)
	comes := s.someComes(g)
	for _, id := range someIds(g, between(g, 0, z.marks), 0, z.id) {
		s.Marks = append(s.Marks, z.someMark(g, s, id, comes))
	}
	return s
}

func (z size) someGates(g *rand.Rand, rooms int) []api.Gate {
	var gates []api.Gate
	for i := range between(g, 0, z.gates) {
		a, b, lo := between(g, 0, rooms-1), between(g, 0, max(0, rooms-2)), between(g, 0, z.goes)
		if b >= a {
			b++
		}
		if z.isStar {
			a, b, lo = 0, 1+i%(rooms-1), z.goes
		}
		if rooms > 1 {
			gates = append(gates, gate(a, b, lo, min(lo+between(g, 0, api.MaxSpread), api.MaxGoes)))
		}
	}
	return gates
}

// someMark is any valid mark of a scene, by the minutes in which the fire comes into rooms.
func (z size) someMark(g *rand.Rand, s scene, id int, comes []int) api.Mark {
	m := s.someMark(g, id)
	for tries := 0; g.Intn(100) < z.so && !s.isSo(m, comes) && tries < 99; tries++ {
		m = s.someMark(g, id)
	}
	if z.isStar && g.Intn(2) == 0 {
		rooms := g.Perm(s.Rooms - 1)
		m = before(id, 1+rooms[0], 1+rooms[1])
	}
	if g.Intn(100) < z.close {
		m = s.moved(g, m, comes)
	}
	return m
}

// someComes are the minutes in which a fire that begins anywhere, at any time, comes into rooms.
func (s scene) someComes(g *rand.Rand) []int {
	var delays []int
	for _, gate := range s.Gates {
		delays = append(delays, between(g, gate.Delay.Lo, gate.Delay.Hi))
	}
	return later(s.comes(delays, g.Intn(s.Rooms)), between(g, 0, s.End))
}

// moved is a mark whose numbers are such that it is just so, or just not so, if the fire comes into rooms in some minutes.
func (s scene) moved(g *rand.Rand, m api.Mark, comes []int) api.Mark {
	in := comes[m.Room]
	if in == never {
		return m
	}
	in = max(0, min(in+someOf(g, list(-1, 0, 0, 0, 0, 0, 0, 0, 0, 1)), api.MaxMinute))
	switch m.Kind {
	case api.MarkClock:
		lo := max(0, in-g.Intn(3))
		m.At = span(lo, min(max(in, lo+g.Intn(3)), api.MaxMinute))
	case api.MarkClear:
		lo := max(0, in-1)
		m.At = span(lo, min(lo+g.Intn(3), api.MaxMinute))
	case api.MarkBurns:
		m.At = span(max(0, in-g.Intn(3)), in)
	case api.MarkMelt:
		m.Long = max(0, s.End-in)
	case api.MarkWhole:
		m.Long = max(0, min(s.End-in+1, api.MaxMinute))
	}
	return m
}

// someMark is any valid mark with an Id.
func (s scene) someMark(g *rand.Rand, id int) api.Mark {
	m := api.Mark{Id: id, Kind: uint8(between(g, api.MarkClock, api.MarkBefore)), Room: g.Intn(s.Rooms)}
	if s.Rooms == 1 && m.Kind == api.MarkBefore {
		m.Kind = api.MarkWhole
	}
	switch m.Kind {
	case api.MarkClock, api.MarkClear, api.MarkBurns:
		m.At.Lo = between(g, 0, min(s.End+10, api.MaxMinute))
		m.At.Hi = min(m.At.Lo+g.Intn(4), api.MaxMinute)
	case api.MarkMelt, api.MarkWhole:
		m.Long = between(g, 0, min(s.End+3, api.MaxMinute))
	case api.MarkBefore:
		m.Other = (m.Room + 1 + g.Intn(s.Rooms-1)) % s.Rooms
	}
	return m
}
