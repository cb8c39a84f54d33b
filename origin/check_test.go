package origin_test

import (
	"math"
	"slices"
	"testing"

	"cottonpad/api"
	"cottonpad/origin"
)

// beyond are numbers that are far outside of all spans.
func beyond() []int {
	return []int{math.MinInt, math.MinInt + 1, math.MinInt32 - 1, math.MaxInt32 + 1, math.MaxInt - 1, math.MaxInt}
}

// expectErrorOfRoom checks the error of Minutes, Truth and Why, with a room that is there or is not; with one that is, of a valid scene, Truth and Why may have errors of their own.
func expectErrorOfRoom(t *testing.T, name any, s scene, room int, want api.Errno) {
	t.Helper()
	spans, e := origin.Minutes(s.Scene, room)
	if e != want || e != api.OK && len(spans) > 0 {
		t.Error(name, "Minutes", room, spans, e, want)
	}
	for _, minute := range []int{-1, 0, s.End, math.MinInt, math.MaxInt} {
		delays, e := origin.Truth(s.Scene, room, minute)
		if e != api.OK && len(delays) > 0 || e != want && (want != api.OK || e != api.ErrUntrue) {
			t.Error(name, "Truth", room, minute, delays, e, want)
		}
	}
	ids, e := origin.Why(s.Scene, room)
	if e != api.OK && len(ids) > 0 || e != want && (want != api.OK || e != api.ErrBad) {
		t.Error(name, "Why", room, ids, e, want)
	}
	// A room is told, or it is excluded.
	if want == api.OK && (len(spans) > 0) != (e == api.ErrBad) {
		t.Error(name, "Minutes and Why", room, spans, e)
	}
}

// expectError checks the error of all functions; what is wrong with the scene comes before the other arguments.
func expectError(t *testing.T, name any, s scene, want api.Errno) {
	t.Helper()
	if e := origin.Check(s.Scene); e != want {
		t.Error(name, "Check", e, want)
	}
	arg := want
	if want == api.OK {
		arg = api.ErrArg
		for room := range s.Rooms {
			expectErrorOfRoom(t, name, s, room, api.OK)
		}
	} else {
		expectErrorOfRoom(t, name, s, 0, want)
	}
	for _, room := range append(beyond(), -1, max(0, min(s.Rooms, api.MaxScene))) {
		expectErrorOfRoom(t, name, s, room, arg)
	}
	rooms, e := origin.Rooms(s.Scene)
	if e != want || e != api.OK && len(rooms) > 0 {
		t.Error(name, "Rooms", rooms, e, want)
	}
	room, e := origin.Named(s.Scene)
	if e != api.OK && room != 0 || e != want && (want != api.OK || e != api.ErrUntrue && e != api.ErrNone) {
		t.Error(name, "Named", room, e, want)
	}
	if ids, e := origin.Against(s.Scene); e != want || e != api.OK && len(ids) > 0 {
		t.Error(name, "Against", ids, e, want)
	}
}

// plain is a scene with each kind of marks, in which most numbers may be changed without touching others.
func plain() scene {
	return house(4, 100, gates(gate(0, 1, 20, 21), gate(3, 1, 30, 30)),
		clock(10, 0, 50, 60), clearAt(20, 1, 40, 50), burns(30, 2, 50, 60), melt(40, 3, 30), whole(50, 0, 40), before(60, 1, 2))
}

// P9.1, R5 and R6: each number of a scene at its bounds, beyond them, and far beyond them.
func TestBounds(t *testing.T) {
	for _, b := range []struct {
		name   string
		field  func(s *scene) *int
		lo, hi int
	}{
		{"rooms", func(s *scene) *int { return &s.Rooms }, 4, 6},
		{"end", func(s *scene) *int { return &s.End }, 0, 600},
		{"gate from", func(s *scene) *int { return &s.Gates[1].A }, 2, 3},
		{"gate to", func(s *scene) *int { return &s.Gates[0].B }, 1, 3},
		{"least delay", func(s *scene) *int { return &s.Gates[0].Delay.Lo }, 19, 21},
		{"greatest delay", func(s *scene) *int { return &s.Gates[0].Delay.Hi }, 20, 22},
		{"least delay of one", func(s *scene) *int { return &s.Gates[1].Delay.Lo }, 28, 30},
		{"greatest delay of one", func(s *scene) *int { return &s.Gates[1].Delay.Hi }, 30, 32},
		{"id of the first mark", func(s *scene) *int { return &s.Marks[0].Id }, 0, 19},
		{"id of a mark", func(s *scene) *int { return &s.Marks[2].Id }, 21, 39},
		{"id of the last mark", func(s *scene) *int { return &s.Marks[5].Id }, 51, 9999},
		{"room of a clock", func(s *scene) *int { return &s.Marks[0].Room }, 0, 3},
		{"room of a mark of clear", func(s *scene) *int { return &s.Marks[1].Room }, 0, 3},
		{"room of one of burning", func(s *scene) *int { return &s.Marks[2].Room }, 0, 3},
		{"room of metal that melted", func(s *scene) *int { return &s.Marks[3].Room }, 0, 3},
		{"room of metal that is whole", func(s *scene) *int { return &s.Marks[4].Room }, 0, 3},
		{"room before another one", func(s *scene) *int { return &s.Marks[5].Room }, 0, 1},
		{"the other room", func(s *scene) *int { return &s.Marks[5].Other }, 2, 3},
		{"first minute of a clock", func(s *scene) *int { return &s.Marks[0].At.Lo }, 0, 60},
		{"last minute of a clock", func(s *scene) *int { return &s.Marks[0].At.Hi }, 50, 600},
		{"first minute of clear", func(s *scene) *int { return &s.Marks[1].At.Lo }, 0, 50},
		{"last minute of clear", func(s *scene) *int { return &s.Marks[1].At.Hi }, 40, 600},
		{"first minute of burning", func(s *scene) *int { return &s.Marks[2].At.Lo }, 0, 60},
		{"last minute of burning", func(s *scene) *int { return &s.Marks[2].At.Hi }, 50, 600},
		{"long of what melted", func(s *scene) *int { return &s.Marks[3].Long }, 0, 600},
		{"long of what is whole", func(s *scene) *int { return &s.Marks[4].Long }, 0, 600},
	} {
		set := func(to int) scene { return plain().with(func(s *scene) { *b.field(s) = to }) }
		for to := b.lo; to <= b.hi; to += max(1, (b.hi-b.lo)/5) {
			expectError(t, b.name, set(to), api.OK)
		}
		expectError(t, b.name, set(b.hi), api.OK)
		for _, to := range append(beyond(), b.lo-1, b.hi+1) {
			expectError(t, []any{b.name, to}, set(to), api.ErrScene)
		}
	}
}

// P9.1, R5: spans of delays from 0 to MaxGoes, no wider than MaxSpread.
func TestSpansOfDelays(t *testing.T) {
	for lo := -3; lo <= api.MaxGoes+3; lo++ {
		for hi := lo - 3; hi <= lo+4; hi++ {
			want := api.ErrScene
			if lo >= 0 && hi <= 60 && lo <= hi && hi <= lo+2 {
				want = api.OK
			}
			if e := origin.Check(house(2, 9, gates(gate(0, 1, lo, hi))).Scene); e != want {
				t.Error(lo, hi, e, want)
			}
		}
	}
	for _, lo := range beyond() {
		for _, hi := range append(beyond(), 0, 1, 60) {
			expectError(t, "far", house(2, 9, gates(gate(0, 1, lo, hi))), api.ErrScene)
			expectError(t, "far", house(2, 9, gates(gate(0, 1, hi, lo))), api.ErrScene)
			expectError(t, "far", house(2, 9, nil, clock(1, 0, lo, hi)), api.ErrScene)
			expectError(t, "far", house(2, 9, nil, burns(1, 0, hi, lo)), api.ErrScene)
		}
	}
}

// P9.1: both rooms of a gate, and those of a mark of before, are different rooms that there are.
func TestTwoRooms(t *testing.T) {
	for rooms := 1; rooms <= api.MaxScene; rooms++ {
		for a := -1; a <= rooms; a++ {
			for b := -1; b <= rooms; b++ {
				want := api.ErrScene
				if a >= 0 && b >= 0 && a < rooms && b < rooms && a != b {
					want = api.OK
				}
				if e := origin.Check(house(rooms, 9, gates(gate(a, b, 1, 1))).Scene); e != want {
					t.Error("gate", rooms, a, b, e, want)
				}
				if e := origin.Check(house(rooms, 9, nil, before(1, a, b)).Scene); e != want {
					t.Error("before", rooms, a, b, e, want)
				}
			}
		}
	}
}

// P9.1 and R6: kinds are those that the chapter lists.
func TestKindsThatThereAre(t *testing.T) {
	for n := range 256 {
		for _, m := range []api.Mark{clock(1, 0, 0, 0), clock(1, 0, 3, 5), melt(1, 0, 5), before(1, 1, 0), before(1, 0, 1)} {
			want := api.ErrScene
			switch {
			case n == api.MarkClock || n == api.MarkClear || n == api.MarkBurns:
				if m.Long == 0 && m.Other == 0 {
					want = api.OK
				}
			case n == api.MarkMelt || n == api.MarkWhole:
				if m.At == span(0, 0) && m.Other == 0 {
					want = api.OK
				}
			case n == api.MarkBefore:
				if m.Kind == api.MarkBefore {
					want = api.OK
				}
			}
			m.Kind = uint8(n)
			expectError(t, m, house(2, 9, nil, m), want)
		}
	}
}

// P9.1, R5 and R6: what a kind does not use is 0, also with a number that other kinds may have, or none may.
func TestWhatIsNotUsed(t *testing.T) {
	for i := range plain().Marks {
		kind := plain().Marks[i].Kind
		usesAt, usesLong, usesOther := kind <= api.MarkBurns, kind == api.MarkMelt || kind == api.MarkWhole, kind == api.MarkBefore
		for _, n := range append(beyond(), -1, 1, 2, 3, 600, 601) {
			if !usesAt {
				for _, at := range []api.Span{span(n, n), span(0, n), span(n, 0)} {
					expectError(t, []any{kind, at}, plain().with(func(s *scene) { s.Marks[i].At = at }), api.ErrScene)
				}
			}
			if !usesLong {
				expectError(t, []any{kind, n}, plain().with(func(s *scene) { s.Marks[i].Long = n }), api.ErrScene)
			}
			if !usesOther {
				expectError(t, []any{kind, n}, plain().with(func(s *scene) { s.Marks[i].Other = n }), api.ErrScene)
			}
		}
		// What it does use may be 0, but the other room is another one.
		expectError(t, kind, plain().with(func(s *scene) {
			s.Marks[i].At, s.Marks[i].Long, s.Marks[i].Other = api.Span{}, 0, 0
		}), api.OK)
	}
	expectError(t, "itself", house(2, 9, nil, before(1, 0, 0)), api.ErrScene)
}

// P9.1: how many rooms, gates and marks there may be, and in which order marks are.
func TestCheck(t *testing.T) {
	for i, x := range []struct {
		change func(s *scene)
		e      api.Errno
	}{
		{func(s *scene) {}, api.OK},
		{func(s *scene) { s.Rooms++ }, api.ErrScene},
		{func(s *scene) { s.Rooms-- }, api.ErrScene},
		{func(s *scene) { s.Rooms = 0 }, api.ErrScene},
		{func(s *scene) { s.Rooms, s.Gates, s.Marks = 0, nil, nil }, api.ErrScene},
		{func(s *scene) { s.Rooms, s.Gates, s.Marks = -1, nil, nil }, api.ErrScene},
		{func(s *scene) { s.Rooms, s.Gates, s.Marks = 1, nil, nil }, api.OK},
		{func(s *scene) { s.Gates, s.Marks = nil, nil }, api.OK},
		{func(s *scene) { s.Rooms, s.Gates, s.Marks = 7, nil, nil }, api.ErrScene},
		{func(s *scene) { s.End++ }, api.ErrScene},
		{func(s *scene) { s.End = -1 }, api.ErrScene},
		{func(s *scene) { s.Gates = s.Gates[:5] }, api.OK},
		{func(s *scene) { s.Gates = append(s.Gates, gate(0, 1, 1, 1)) }, api.ErrScene},
		{func(s *scene) { s.Gates = slices.Repeat(s.Gates, 500) }, api.ErrScene},
		{func(s *scene) { s.Gates = slices.Repeat(s.Gates[:1], 6) }, api.OK},
		{func(s *scene) { s.Marks = s.Marks[1:] }, api.OK},
		{func(s *scene) { s.Marks = append([]api.Mark{burns(0, 0, 600, 600)}, s.Marks...) }, api.ErrScene},
		{func(s *scene) { s.Marks[0] = burns(0, 0, 600, 600) }, api.OK},
		{func(s *scene) { s.Marks = slices.Repeat(s.Marks, 500) }, api.ErrScene},
		{func(s *scene) { s.Marks[2].Id = s.Marks[1].Id }, api.ErrScene},
		{func(s *scene) { s.Marks[2], s.Marks[3] = s.Marks[3], s.Marks[2] }, api.ErrScene},
		{func(s *scene) { slices.Reverse(s.Marks) }, api.ErrScene},
		{func(s *scene) { slices.Reverse(s.Gates) }, api.OK},
		{func(s *scene) { s.Gates[5].A = s.Gates[5].B }, api.ErrScene},
		{func(s *scene) { s.Gates[5].Delay.Hi++ }, api.ErrScene},
		{func(s *scene) { s.Gates[5].Delay.Lo-- }, api.ErrScene},
		{func(s *scene) { s.Marks[7].At.Hi++ }, api.ErrScene},
		{func(s *scene) { s.Marks[7].Room = 6 }, api.ErrScene},
	} {
		expectError(t, i, greatest().with(x.change), x.e)
	}
	expectError(t, "zero", scene{}, api.ErrScene)
	expectError(t, "example", example(), api.OK)
}

// P9.2 to P9.4: a room that is none, then what the marks say.
func TestErrorsOfRooms(t *testing.T) {
	s := example().more(before(3, 0, 1))
	for _, room := range append(beyond(), -1, 3, 4, 5, 6) {
		expectErrorOfRoom(t, "room", s, room, api.ErrArg)
	}
	if _, e := origin.Why(s.Scene, 0); e != api.ErrBad {
		t.Error("Why", e)
	}
	for _, minute := range append(beyond(), -1, 4, 7, 30, 31) {
		if delays, e := origin.Truth(s.Scene, 0, minute); e != api.ErrUntrue || len(delays) > 0 {
			t.Error("Truth", minute, delays, e)
		}
	}
	if room, e := origin.Named(example().Scene); e != api.ErrNone || room != 0 {
		t.Error("Named", room, e)
	}
	if room, e := origin.Named(s.more(melt(4, 0, 26)).Scene); e != api.ErrUntrue || room != 0 {
		t.Error("Named", room, e)
	}
	// The last room of all is named, too.
	last := house(6, 9, nil, burns(1, 5, 9, 9))
	if room, e := origin.Named(last.Scene); e != api.OK || room != 5 {
		t.Error("Named", room, e)
	}
}
