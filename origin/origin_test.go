package origin_test

import (
	"slices"
	"testing"

	"cottonpad/api"
)

func expectMinutes(t *testing.T, name any, s scene, room int, want ...api.Span) {
	t.Helper()
	if spans := s.minutes(t, room); !slices.Equal(spans, want) {
		t.Error(name, "Minutes", room, spans, want)
	}
}

func expectRooms(t *testing.T, name any, s scene, want ...int) {
	t.Helper()
	if rooms := s.rooms(t); !slices.Equal(rooms, want) {
		t.Error(name, "Rooms", rooms, want)
	}
	// What is named is told by the rooms.
	room, e := s.named(t)
	switch {
	case len(want) == 1 && (room != want[0] || e != api.OK):
		t.Error(name, "Named", room, e, want)
	case len(want) == 0 && e != api.ErrUntrue:
		t.Error(name, "Named", room, e, want)
	case len(want) > 1 && e != api.ErrNone:
		t.Error(name, "Named", room, e, want)
	}
}

func expectTruth(t *testing.T, name any, s scene, room, minute int, want ...int) {
	t.Helper()
	if delays, found := s.truth(t, room, minute); !found || !slices.Equal(delays, want) {
		t.Error(name, "Truth", room, minute, delays, found, want)
	}
}

func expectUntrue(t *testing.T, name any, s scene, room int, minutes ...int) {
	t.Helper()
	for _, minute := range minutes {
		if delays, found := s.truth(t, room, minute); found || len(delays) > 0 {
			t.Error(name, "Truth", room, minute, delays)
		}
	}
}

// expectWhy checks which marks exclude a room, and that the fire did not begin in it.
func expectWhy(t *testing.T, name any, s scene, room int, want ...int) {
	t.Helper()
	if ids, found := s.why(t, room); !found || !slices.Equal(ids, want) {
		t.Error(name, "Why", room, ids, found, want)
	}
	expectMinutes(t, name, s, room)
}

// expectNotExcluded checks that rooms are told, and no marks exclude them.
func expectNotExcluded(t *testing.T, name any, s scene, rooms ...int) {
	t.Helper()
	for _, room := range rooms {
		if ids, found := s.why(t, room); found || !slices.Contains(s.rooms(t), room) {
			t.Error(name, "Why", room, ids)
		}
	}
}

func expectAgainst(t *testing.T, name any, s scene, want ...int) {
	t.Helper()
	if ids := s.against(t); !slices.Equal(ids, want) {
		t.Error(name, "Against", ids, want)
	}
}

// TestExamples: those of the chapter, and the one of DOC.md (P9.1 to P9.5).
func TestExamples(t *testing.T) {
	s := example()
	expectMinutes(t, "example", s, 0, span(5, 6))
	expectMinutes(t, "example", s, 1, span(6, 8))
	expectMinutes(t, "example", s, 2, span(10, 12))
	expectTruth(t, "example", s, 0, 6, 2, 4)
	expectTruth(t, "example", s, 0, 5, 2, 4)
	expectRooms(t, "example", s, 0, 1, 2)
	expectNotExcluded(t, "example", s, 0, 1, 2)
	expectAgainst(t, "example", s)
	third := s.more(before(3, 0, 1))
	expectRooms(t, "before", third, 0)
	expectWhy(t, "before", third, 1, 3)
	expectWhy(t, "before", third, 2, 3)
	expectMinutes(t, "before", third, 0, span(5, 6))
	fourth := third.more(melt(4, 0, 26))
	expectRooms(t, "melt", fourth)
	expectAgainst(t, "melt", fourth, 2, 4)
	// With the clock alone.
	expectMinutes(t, "clock", s.just(list(1)), 0, span(3, 6))
	expectTruth(t, "clock", s.just(list(1)), 0, 3, 3, 4)
	expectTruth(t, "clock", s.just(list(1)), 0, 4, 2, 4)
	expectUntrue(t, "clock", s.just(list(1)), 0, 2, 7)
}

// TestWithoutMarks: any room, and any minute until End (P9.1, P9.2, P9.3, P9.10).
func TestWithoutMarks(t *testing.T) {
	for _, end := range list(0, 1, 30, api.MaxMinute) {
		for rooms := 1; rooms <= api.MaxScene; rooms++ {
			s := house(rooms, end, nil)
			var gateways, least []int
			for i := range rooms - 1 {
				s.Gates, gateways, least = append(s.Gates, gate(i, i+1, i, i+1)), append(gateways, i), append(least, i)
			}
			for _, x := range []scene{s, s.with(func(s *scene) { s.Gates = nil })} {
				expectRooms(t, end, x, x.allRooms()...)
				expectNotExcluded(t, end, x, x.allRooms()...)
				expectAgainst(t, end, x)
				for room := range rooms {
					expectMinutes(t, end, x, room, span(0, end))
					expectTruth(t, end, x, room, 0, least[:len(x.Gates)]...)
					expectTruth(t, end, x, room, end, gateways[:len(x.Gates)]...)
					expectUntrue(t, end, x, room, -1, end+1)
				}
			}
		}
	}
}

// TestOneRoom: all marks are about the room in which the fire began (P9.1 to P9.5).
func TestOneRoom(t *testing.T) {
	s := house(1, 20, nil)
	for _, x := range []struct {
		mark api.Mark
		want api.Span
	}{
		{clock(0, 0, 5, 7), span(5, 7)}, {clock(0, 0, 5, 5), span(5, 5)}, {clock(0, 0, 0, 0), span(0, 0)}, {clock(0, 0, 20, 20), span(20, 20)}, {clock(0, 0, 18, 25), span(18, 20)}, {clock(0, 0, 0, 600), span(0, 20)},
		{clearAt(0, 0, 5, 7), span(6, 20)}, {clearAt(0, 0, 5, 5), span(6, 20)}, {clearAt(0, 0, 0, 0), span(1, 20)}, {clearAt(0, 0, 19, 20), span(20, 20)},
		{burns(0, 0, 5, 7), span(0, 7)}, {burns(0, 0, 5, 5), span(0, 5)}, {burns(0, 0, 0, 0), span(0, 0)}, {burns(0, 0, 19, 20), span(0, 20)}, {burns(0, 0, 30, 40), span(0, 20)},
		{melt(0, 0, 5), span(0, 15)}, {melt(0, 0, 0), span(0, 20)}, {melt(0, 0, 20), span(0, 0)}, {melt(0, 0, 1), span(0, 19)},
		{whole(0, 0, 5), span(16, 20)}, {whole(0, 0, 1), span(20, 20)}, {whole(0, 0, 20), span(1, 20)}, {whole(0, 0, 21), span(0, 20)}, {whole(0, 0, 600), span(0, 20)},
	} {
		expectMinutes(t, x.mark, s.marked(x.mark), 0, x.want)
		expectRooms(t, x.mark, s.marked(x.mark), 0)
		expectTruth(t, x.mark, s.marked(x.mark), 0, x.want.Lo)
		expectTruth(t, x.mark, s.marked(x.mark), 0, x.want.Hi)
		expectUntrue(t, x.mark, s.marked(x.mark), 0, x.want.Lo-1, x.want.Hi+1)
		expectAgainst(t, x.mark, s.marked(x.mark))
	}
	// Marks that are not so, by themselves.
	for _, m := range []api.Mark{clock(3, 0, 21, 30), clearAt(3, 0, 20, 600), melt(3, 0, 21), melt(3, 0, 600), whole(3, 0, 0)} {
		expectRooms(t, m, s.marked(m))
		expectWhy(t, m, s.marked(m), 0, 3)
		expectAgainst(t, m, s.marked(m), 3)
	}
}

// TestNoWay: each kind of marks with a room that the fire never comes into (P9.1 to P9.5).
func TestNoWay(t *testing.T) {
	// The rooms 0 and 1, and the rooms 2 and 3; no way leads to the room 4.
	s := house(5, 20, gates(gate(0, 1, 2, 3), gate(2, 3, 4, 4)))
	for _, x := range []struct {
		mark  api.Mark
		rooms []int
	}{
		{clock(7, 1, 0, 600), list(0, 1)}, {clock(7, 2, 0, 600), list(2, 3)}, {clock(7, 4, 0, 600), list(4)},
		{burns(7, 1, 600, 600), list(0, 1)}, {burns(7, 3, 600, 600), list(2, 3)}, {burns(7, 4, 600, 600), list(4)},
		{melt(7, 0, 0), list(0, 1)}, {melt(7, 2, 0), list(2, 3)}, {melt(7, 4, 0), list(4)},
		{clearAt(7, 0, 600, 600), list(2, 3, 4)}, {clearAt(7, 3, 600, 600), list(0, 1, 4)}, {clearAt(7, 4, 600, 600), list(0, 1, 2, 3)},
		// The room 1 is 3 minutes from 0, so it may be whole at End.
		{whole(7, 0, 0), list(1, 2, 3, 4)}, {whole(7, 3, 0), list(0, 1, 2, 4)}, {whole(7, 4, 0), list(0, 1, 2, 3)},
		{before(7, 0, 1), list(0)}, {before(7, 0, 2), list(0, 1)}, {before(7, 3, 1), list(2, 3)}, {before(7, 4, 3), list(4)}, {before(7, 3, 4), list(2, 3)},
	} {
		s := s.marked(x.mark)
		expectRooms(t, x.mark, s, x.rooms...)
		expectNotExcluded(t, x.mark, s, x.rooms...)
		for _, room := range minus(s.allRooms(), x.rooms) {
			expectWhy(t, x.mark, s, room, 7)
			expectUntrue(t, x.mark, s, room, 0, 10, 20)
		}
	}
	// Into neither room the fire came: this is not so.
	expectWhy(t, "neither", s.marked(before(7, 0, 1)), 2, 7)
	expectWhy(t, "neither", s.marked(before(7, 2, 3)), 4, 7)
	// What burns in both parts has no truth.
	both := s.marked(burns(1, 1, 9, 9), clearAt(4, 4, 0, 9), burns(8, 2, 9, 9))
	expectRooms(t, "both", both)
	expectAgainst(t, "both", both, 1, 8)
	expectWhy(t, "both", both, 0, 8)
	expectWhy(t, "both", both, 3, 1)
	expectWhy(t, "both", both, 4, 1)
}

// TestDelays: delays of 0, of one number, and of several ones (P9.1, P9.3).
func TestDelays(t *testing.T) {
	s := house(3, 30, gates(gate(0, 1, 0, 0), gate(1, 2, 5, 5)), clock(1, 1, 10, 10))
	expectMinutes(t, "nothing", s, 0, span(10, 10))
	expectMinutes(t, "nothing", s, 1, span(10, 10))
	expectMinutes(t, "one", s, 2, span(5, 5))
	expectTruth(t, "both", s, 0, 10, 0, 5)
	expectUntrue(t, "both", s, 0, 9, 11)
	// All rooms at once.
	none := house(4, 30, gates(gate(0, 1, 0, 0), gate(1, 2, 0, 0), gate(2, 3, 0, 0), gate(0, 3, 0, 0)), clock(1, 3, 7, 8))
	for room := range 4 {
		expectMinutes(t, "at once", none, room, span(7, 8))
		expectTruth(t, "at once", none, room, 8, 0, 0, 0, 0)
	}
	expectRooms(t, "not before", none.more(before(2, 0, 1)))
	expectAgainst(t, "not before", none.more(before(2, 0, 1)), 2)
	// From nothing to two minutes.
	some := house(2, 30, gates(gate(0, 1, 0, 2)), clock(1, 1, 10, 10))
	expectMinutes(t, "some", some, 0, span(8, 10))
	for minute, delay := range map[int]int{8: 2, 9: 1, 10: 0} {
		expectTruth(t, "some", some, 0, minute, delay)
	}
	expectUntrue(t, "some", some, 0, 7, 11)
	// The greatest ones.
	long := house(2, 600, gates(gate(0, 1, 58, 60)), clock(1, 1, 600, 600))
	expectMinutes(t, "long", long, 0, span(540, 542))
	expectTruth(t, "long", long, 0, 540, 60)
	expectUntrue(t, "long", long, 0, 539, 543)
}

// TestSeveralGates: between the same two rooms the fastest one counts (P9.1, P9.3, P9.8).
func TestSeveralGates(t *testing.T) {
	s := house(2, 30, gates(gate(0, 1, 5, 7), gate(1, 0, 6, 6), gate(0, 1, 9, 9)), clock(1, 1, 20, 20))
	expectMinutes(t, "several", s, 0, span(14, 15))
	expectTruth(t, "several", s, 0, 15, 5, 6, 9)
	expectTruth(t, "several", s, 0, 14, 6, 6, 9)
	expectMinutes(t, "several", s, 1, span(20, 20))
	expectTruth(t, "several", s, 1, 20, 5, 6, 9)
	// Without the second one the first one alone tells it.
	alone := s.with(func(s *scene) { s.Gates = slices.Delete(s.Gates, 1, 2) })
	expectMinutes(t, "alone", alone, 0, span(13, 15))
	expectTruth(t, "alone", alone, 0, 13, 7, 9)
}

// TestShortestWay: a way by more gates may be the faster one, by fewer as well (P9.1, P9.3).
func TestShortestWay(t *testing.T) {
	s := house(4, 60, gates(gate(0, 3, 20, 20), gate(3, 2, 4, 4), gate(0, 1, 3, 4), gate(1, 2, 5, 5)), clock(1, 3, 30, 30))
	expectMinutes(t, "round", s, 0, span(17, 18))
	expectMinutes(t, "round", s, 1, span(21, 21))
	expectMinutes(t, "round", s, 2, span(26, 26))
	expectTruth(t, "round", s, 0, 17, 20, 4, 4, 5)
	expectTruth(t, "round", s, 0, 18, 20, 4, 3, 5)
	s.Gates[0].Delay = span(11, 12)
	expectMinutes(t, "straight", s, 0, span(18, 19))
	expectTruth(t, "straight", s, 0, 18, 12, 4, 3, 5)
	expectTruth(t, "straight", s, 0, 19, 11, 4, 3, 5)
	// As many rooms as there may be, one after the other.
	chain := house(6, 600, gates(gate(4, 5, 60, 60), gate(2, 1, 60, 60), gate(0, 1, 60, 60), gate(4, 3, 60, 60), gate(2, 3, 58, 60)), clock(1, 5, 400, 400))
	expectMinutes(t, "chain", chain, 0, span(100, 102))
	expectMinutes(t, "chain", chain, 4, span(340, 340))
	expectTruth(t, "chain", chain, 0, 101, 60, 60, 60, 60, 59)
}

// TestEitherSide: fire goes through a gate in either direction (P9.1, P9.3, P9.8).
func TestEitherSide(t *testing.T) {
	for _, g := range gates(gate(0, 1, 3, 5), gate(1, 0, 3, 5)) {
		s := house(2, 30, gates(g), clock(1, 1, 10, 10))
		expectMinutes(t, g, s, 0, span(5, 7))
		expectTruth(t, g, s, 0, 6, 4)
		s = s.marked(clock(1, 0, 10, 10))
		expectMinutes(t, g, s, 1, span(5, 7))
		expectTruth(t, g, s, 1, 5, 5)
	}
}

// TestFirstAndLastMinutes: clocks, marks of clear and of burning at the ends of At, in a room 5 minutes away (P9.1, P9.3).
func TestFirstAndLastMinutes(t *testing.T) {
	s := house(2, 40, gates(gate(0, 1, 5, 5)))
	for _, x := range []struct {
		mark api.Mark
		want api.Span
	}{
		{clock(0, 1, 10, 12), span(5, 7)}, {clock(0, 1, 10, 10), span(5, 5)}, {clock(0, 1, 0, 5), span(0, 0)}, {clock(0, 1, 3, 8), span(0, 3)}, {clock(0, 1, 45, 50), span(40, 40)},
		// It came later than the first minute.
		{clearAt(0, 1, 10, 12), span(6, 40)}, {clearAt(0, 1, 10, 10), span(6, 40)}, {clearAt(0, 1, 0, 600), span(0, 40)}, {clearAt(0, 1, 4, 4), span(0, 40)}, {clearAt(0, 1, 5, 5), span(1, 40)}, {clearAt(0, 1, 44, 60), span(40, 40)},
		// It had come in the last minute.
		{burns(0, 1, 10, 12), span(0, 7)}, {burns(0, 1, 12, 12), span(0, 7)}, {burns(0, 1, 0, 5), span(0, 0)}, {burns(0, 1, 0, 44), span(0, 39)}, {burns(0, 1, 45, 45), span(0, 40)}, {burns(0, 1, 600, 600), span(0, 40)},
	} {
		expectMinutes(t, x.mark, s.marked(x.mark), 0, x.want)
		expectTruth(t, x.mark, s.marked(x.mark), 0, x.want.Lo, 5)
		expectTruth(t, x.mark, s.marked(x.mark), 0, x.want.Hi, 5)
		expectUntrue(t, x.mark, s.marked(x.mark), 0, x.want.Lo-1, x.want.Hi+1)
	}
	for _, m := range []api.Mark{clock(2, 1, 0, 4), clock(2, 1, 46, 600), clearAt(2, 1, 45, 45), burns(2, 1, 0, 4)} {
		expectMinutes(t, m, s.marked(m), 0)
		expectWhy(t, m, s.marked(m), 0, 2)
	}
}

// TestLong: from 0 to more than End, of the room of the fire and of one that it comes into 5 minutes later (P9.1).
func TestLong(t *testing.T) {
	s := house(2, 40, gates(gate(0, 1, 5, 5)))
	for long := range api.MaxMinute + 1 {
		if long > 50 && long%50 != 0 {
			continue
		}
		for room, away := range list(0, 5) {
			last := 40 - long - away
			if melted := s.marked(melt(1, room, long)); last >= 0 {
				expectMinutes(t, long, melted, 0, span(0, last))
			} else {
				expectWhy(t, long, melted, 0, 1)
			}
			if stayed := s.marked(whole(1, room, long)); last < 40 {
				expectMinutes(t, long, stayed, 0, span(max(0, last+1), 40))
			} else {
				expectWhy(t, long, stayed, 0, 1)
			}
		}
	}
	// Into the other room it comes after End if it begins in one of the last minutes.
	expectMinutes(t, "after End", s.marked(whole(1, 1, 0)), 0, span(36, 40))
	expectMinutes(t, "until End", s.marked(melt(1, 1, 0)), 0, span(0, 35))
	expectRooms(t, "whole", s.marked(whole(1, 0, 0)), 1)
	expectRooms(t, "melted", s.marked(melt(1, 0, 41)))
}

// TestBefore: the other room is reached later, in the same minute, sooner, or never (P9.1 to P9.4).
func TestBefore(t *testing.T) {
	for delay := range 10 {
		s := house(3, 40, gates(gate(0, 1, 4, 4), gate(0, 2, delay, delay)), before(6, 1, 2))
		want := list(1)
		if delay > 4 {
			want = list(0, 1)
		}
		if delay == 0 {
			// The fire is in the rooms 0 and 2 at once.
			expectRooms(t, delay, s.marked(before(6, 2, 0)))
		}
		expectRooms(t, delay, s, want...)
		for _, room := range want {
			expectMinutes(t, delay, s, room, span(0, 40))
		}
		expectWhy(t, delay, s, 2, 6)
	}
	// Delays tell which room is the first one.
	s := house(3, 40, gates(gate(0, 1, 4, 6), gate(0, 2, 4, 6)), before(6, 1, 2))
	expectTruth(t, "first", s, 0, 0, 4, 5)
	expectTruth(t, "first", s.more(clock(7, 1, 10, 10)), 0, 5, 5, 6)
	expectUntrue(t, "first", s.more(clock(7, 1, 10, 10)), 0, 4)
	expectMinutes(t, "first", s.more(clock(7, 1, 10, 10)), 0, span(5, 6))
	expectMinutes(t, "last", s.more(clock(7, 2, 10, 10)), 0, span(4, 5))
	// Never.
	never := house(3, 40, gates(gate(0, 1, 4, 6)), before(6, 1, 2))
	expectRooms(t, "never", never, 0, 1)
	expectRooms(t, "never", never.marked(before(6, 2, 1)), 2)
}

// TestFirstAndLastBeginning: a fire that begins in the minute 0, and one that does in End (P9.1, P9.3).
func TestFirstAndLastBeginning(t *testing.T) {
	s := house(2, 30, gates(gate(0, 1, 5, 7)))
	expectMinutes(t, "0", s.marked(clock(1, 0, 0, 0)), 0, span(0, 0))
	expectMinutes(t, "0", s.marked(clock(1, 1, 5, 5)), 0, span(0, 0))
	expectMinutes(t, "0", s.marked(clock(1, 1, 6, 6)), 0, span(0, 1))
	expectRooms(t, "before 0", s.marked(clock(1, 1, 4, 4)), 1)
	expectMinutes(t, "End", s.marked(clock(1, 0, 30, 30)), 0, span(30, 30))
	expectRooms(t, "End", s.marked(clock(1, 0, 30, 30)), 0, 1)
	expectMinutes(t, "End", s.marked(clock(1, 1, 37, 37)), 0, span(30, 30))
	expectMinutes(t, "End", s.marked(clock(1, 1, 36, 36)), 0, span(29, 30))
	expectTruth(t, "End", s.marked(clock(1, 1, 37, 37)), 0, 30, 7)
	expectRooms(t, "after End", s.marked(clock(1, 1, 38, 600)))
	expectMinutes(t, "no time", s.with(func(s *scene) { s.End = 0 }), 1, span(0, 0))
	expectMinutes(t, "no time", s.marked(clock(1, 1, 6, 6)).with(func(s *scene) { s.End = 0 }), 0, span(0, 0))
	for _, far := range append(beyond(), -1, 31) {
		expectUntrue(t, "far", s, 0, far)
		expectUntrue(t, "far", s, 1, far)
	}
}

// TestFirstTruth: of several lists of delays the first one is told: the first delay that differs is less (P9.3).
func TestFirstTruth(t *testing.T) {
	s := house(4, 60, gates(gate(0, 1, 3, 5), gate(1, 2, 10, 12), gate(2, 3, 0, 2)), clock(1, 3, 20, 20))
	for minute, want := range map[int][]int{7: {3, 10, 0}, 6: {3, 10, 1}, 5: {3, 10, 2}, 4: {3, 11, 2}, 3: {3, 12, 2}, 2: {4, 12, 2}, 1: {5, 12, 2}} {
		expectTruth(t, minute, s, 0, minute, want...)
	}
	expectUntrue(t, "before and after", s, 0, 0, 8)
	expectMinutes(t, "all", s, 0, span(1, 7))
	// A mark may exclude the first list of a minute.
	late := s.more(clearAt(2, 1, 9, 9))
	expectTruth(t, "late", late, 0, 5, 5, 10, 0)
	expectTruth(t, "late", late, 0, 6, 4, 10, 0)
	expectTruth(t, "late", late, 0, 7, 3, 10, 0)
	expectUntrue(t, "late", late, 0, 4)
	expectMinutes(t, "late", late, 0, span(5, 7))
	// Gates that no mark needs have their least delays.
	expectTruth(t, "unneeded", s, 3, 20, 3, 10, 0)
	expectTruth(t, "unneeded", s.marked(), 0, 33, 3, 10, 0)
}

// TestWhy: a room that no marks exclude, one, several ones, and several lists of the fewest (P9.4).
func TestWhy(t *testing.T) {
	s := house(2, 40, gates(gate(0, 1, 4, 6)))
	expectNotExcluded(t, "no marks", s, 0, 1)
	// From 0 the fire takes more than 3 minutes to 1.
	two := s.marked(clock(2, 0, 10, 10), burns(5, 1, 12, 13))
	expectRooms(t, "two", two, 1)
	expectWhy(t, "two", two, 0, 2, 5)
	expectMinutes(t, "two", two, 1, span(4, 6))
	// One alone is enough, though others come before it.
	one := two.more(before(9, 1, 0))
	expectWhy(t, "one", one, 0, 9)
	expectNotExcluded(t, "one", one, 1)
	// Of several lists of one the least Id, of several lists of two the first list.
	expectWhy(t, "several", one.more(before(11, 1, 0)), 0, 9)
	expectWhy(t, "several", two.more(burns(7, 1, 13, 13), clock(8, 0, 9, 11)), 0, 2, 5)
	expectWhy(t, "several", s.marked(clearAt(1, 0, 5, 5), clock(3, 0, 10, 10), clearAt(4, 0, 9, 9), burns(6, 1, 13, 13)), 0, 3, 6)
	expectWhy(t, "several", s.marked(burns(1, 1, 13, 13), clearAt(4, 0, 9, 9), clock(6, 0, 10, 10)), 0, 1, 4)
	// Three of them: two clocks and what tells which way the fire took.
	ring := house(3, 60, gates(gate(0, 1, 4, 4), gate(1, 2, 4, 4), gate(0, 2, 20, 20)), clock(1, 0, 10, 14), clock(2, 2, 20, 22), clearAt(7, 0, 13, 13), before(8, 0, 1))
	expectRooms(t, "both", ring.just(list(1, 2, 8)), 0)
	expectWhy(t, "both", ring.just(list(1, 2, 8)), 1, 8)
	expectWhy(t, "both", ring, 1, 8)
	expectMinutes(t, "all", ring, 0, span(14, 14))
}

// TestWhyThree: three marks that exclude a room, of which no two do (P9.4, P9.5).
func TestWhyThree(t *testing.T) {
	s := house(3, 90, gates(gate(0, 1, 4, 6), gate(0, 2, 5, 5)), clock(10, 1, 15, 16), clock(20, 2, 14, 15), before(30, 1, 2))
	for _, id := range s.ids() {
		two := s.just(minus(s.ids(), list(id)))
		expectNotExcluded(t, id, two, 0)
		expectAgainst(t, id, two)
	}
	expectWhy(t, "three", s, 0, 10, 20, 30)
	expectAgainst(t, "three", s, 10, 20, 30)
	// Two others are fewer, though they come later; with three others the first list is told.
	expectWhy(t, "fewer", s.more(clock(40, 0, 30, 30)), 0, 10, 40)
	expectWhy(t, "later", s.more(clock(40, 0, 8, 9), burns(50, 2, 13, 13)), 0, 10, 50)
	expectWhy(t, "first", s.more(clock(40, 1, 15, 15)), 0, 10, 20, 30)
	expectWhy(t, "first", s.more(clock(40, 1, 15, 15)).just(list(20, 30, 40)), 0, 20, 30, 40)
}

// TestAgainst: marks that allow no truth together but do without any one of them, and those of which one alone allows none (P9.5, P9.9).
func TestAgainst(t *testing.T) {
	s := house(2, 40, gates(gate(0, 1, 4, 6)))
	expectAgainst(t, "no marks", s)
	expectAgainst(t, "a truth", s.marked(clock(1, 0, 10, 10), clock(2, 1, 15, 15)))
	expectAgainst(t, "two", s.marked(clock(1, 0, 10, 10), clock(2, 1, 13, 13)), 1, 2)
	expectAgainst(t, "two", s.marked(clock(1, 0, 10, 10), clock(2, 1, 17, 17)), 1, 2)
	expectAgainst(t, "two of three", s.marked(clearAt(1, 0, 3, 3), clock(2, 0, 10, 10), clock(4, 1, 17, 17)), 2, 4)
	expectAgainst(t, "one", s.marked(clock(1, 0, 10, 10), clock(2, 1, 17, 17), melt(3, 1, 41)), 3)
	expectAgainst(t, "the first one", s.marked(melt(3, 0, 600), melt(4, 1, 41)), 3)
	expectAgainst(t, "the first two", s.marked(before(1, 0, 1), before(2, 1, 0), clock(3, 0, 10, 10), clock(4, 1, 17, 17)), 1, 2)
	expectAgainst(t, "the first two", s.marked(clock(1, 0, 10, 10), before(2, 1, 0), clock(3, 1, 17, 17), before(4, 0, 1)), 1, 3)
	// Each room is excluded by another mark: no one of them excludes both.
	each := house(3, 40, gates(gate(0, 1, 4, 6), gate(1, 2, 4, 6)), before(2, 0, 1), before(5, 1, 2), before(6, 2, 1))
	expectAgainst(t, "each", each, 2, 6)
	expectWhy(t, "each", each, 0, 6)
	expectWhy(t, "each", each, 1, 2)
	expectWhy(t, "each", each, 2, 2)
	expectRooms(t, "each", each)
	// Three rooms with three marks, each of which excludes two.
	parts := house(3, 40, nil, clearAt(1, 0, 40, 40), clearAt(2, 1, 40, 40), clearAt(3, 2, 40, 40))
	expectAgainst(t, "parts", parts, 1, 2, 3)
	for room := range 3 {
		expectWhy(t, "parts", parts, room, room+1)
		expectRooms(t, "parts", parts.just(minus(parts.ids(), list(room+1))), room)
	}
}

// greatest is a scene with as many rooms, gates and marks as there may be, and the greatest numbers.
func greatest() scene {
	s := house(api.MaxScene, api.MaxMinute, nil)
	for i := range api.MaxGates {
		s.Gates = append(s.Gates, gate(i, (i+1)%api.MaxScene, api.MaxGoes-api.MaxSpread, api.MaxGoes))
	}
	for i := range api.MaxMarks {
		s.Marks = append(s.Marks, burns(api.MaxId-api.MaxMarks+1+i, i%api.MaxScene, api.MaxMinute, api.MaxMinute))
	}
	return s
}

// TestGreatest: as many rooms, gates and marks as there may be (P9.1 to P9.5, R5).
func TestGreatest(t *testing.T) {
	s := greatest()
	expectRooms(t, "greatest", s, 0, 1, 2, 3, 4, 5)
	for room := range api.MaxScene {
		// The farthest room is three gates away.
		expectMinutes(t, "greatest", s, room, span(0, 426))
		expectTruth(t, "greatest", s, room, 420, 58, 58, 58, 58, 58, 58)
	}
	expectTruth(t, "greatest", s, 0, 426, 58, 58, 58, 58, 58, 58)
	// All rooms are excluded, each one by another mark.
	for i := range s.Marks {
		id, room := s.Marks[i].Id, s.Marks[i].Room
		s.Marks[i] = clearAt(id, room, api.MaxMinute, api.MaxMinute)
	}
	expectRooms(t, "clear", s)
	first := s.Marks[0].Id
	for room := range api.MaxScene {
		expectWhy(t, "clear", s, room, first+room)
	}
	// From each room the fire may come into others after the last minute alone.
	expectMinutes(t, "one", s.just(list(first+3)), 0, span(421, 600))
	expectMinutes(t, "two", s.just(list(first+2, first+3)), 0, span(481, 600))
	expectAgainst(t, "clear", s, first, first+1, first+2, first+3, first+4, first+5)
}
