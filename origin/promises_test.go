package origin_test

import (
	"math/rand"
	"slices"
	"testing"

	"cottonpad/api"
)

// P9.1, P9.2: minutes and rooms by the words of the chapter, by trying each room, minute and list of delays.
func TestMinutesByTheWord(t *testing.T) {
	g := rand.New(rand.NewSource(1))
	none, one, several, part := 0, 0, 0, 0
	for range 2500 {
		s := someOf(g, sizes()).some(g)
		x := s.tried()
		for room := range s.Rooms {
			spans := s.minutes(t, room)
			if !slices.Equal(oneByOne(spans), x.minutes(room)) || !areFew(spans) {
				t.Fatal(room, spans, x.minutes(room), s)
			}
			if n := len(oneByOne(spans)); n > 0 && n <= s.End {
				part++
			}
		}
		rooms := s.rooms(t)
		if !slices.Equal(rooms, x.rooms()) {
			t.Fatal(rooms, x.rooms(), s)
		}
		room, e := s.named(t)
		switch len(rooms) {
		case 0:
			none++
			if e != api.ErrUntrue {
				t.Fatal(room, e, s)
			}
		case 1:
			one++
			if room != rooms[0] {
				t.Fatal(room, e, rooms, s)
			}
		default:
			several++
			if e != api.ErrNone {
				t.Fatal(room, e, rooms, s)
			}
		}
	}
	if none < 300 || one < 300 || several < 300 || part < 500 {
		t.Error("too few of one kind", none, one, several, part)
	}
}

// P9.1 to P9.5: scenes with the greatest numbers, by the words of the chapter.
func TestGreatScenesByTheWord(t *testing.T) {
	g := rand.New(rand.NewSource(2))
	told, excluded := 0, 0
	for range 120 {
		s := huge().some(g)
		x := s.tried()
		for room := range s.Rooms {
			want := x.minutes(room)
			if spans := s.minutes(t, room); !slices.Equal(oneByOne(spans), want) || !areFew(spans) {
				t.Fatal(room, spans, want, s)
			}
			if len(want) == 0 {
				excluded++
				first, _ := firstOf(s.ids(), func(ids []int) bool { return x.excludes(ids, room) })
				expectWhy(t, s, s, room, first...)
				continue
			}
			told++
			minute := someOf(g, want)
			expectTruth(t, s, s, room, minute, x.truths[room][minute][0]...)
		}
		if x.excludes(s.ids(), s.allRooms()...) {
			first, _ := firstOf(s.ids(), func(ids []int) bool { return x.excludes(ids, s.allRooms()...) })
			expectAgainst(t, s, s, first...)
		}
	}
	if told < 50 || excluded < 50 {
		t.Error("too few of one kind", told, excluded)
	}
}

// P9.3: the first truth of all, in each minute of each room, and none in the others.
func TestTruthByTheWord(t *testing.T) {
	g := rand.New(rand.NewSource(3))
	untrue, only, several, later := 0, 0, 0, 0
	for range 1500 {
		s := someOf(g, sizes()).some(g)
		x, least := s.tried(), s.delays()[0]
		for room := range s.Rooms {
			for minute := -2; minute < s.End+3; minute++ {
				delays, found := s.truth(t, room, minute)
				if minute < 0 || minute > s.End || len(x.truths[room][minute]) == 0 {
					untrue++
					if found {
						t.Fatal(room, minute, delays, s)
					}
					continue
				}
				truths := x.truths[room][minute]
				if !found || !slices.Equal(delays, truths[0]) {
					t.Fatal(room, minute, delays, truths[0], s)
				}
				if len(truths) == 1 {
					only++
				} else {
					several++
				}
				if !slices.Equal(delays, least) {
					later++
				}
			}
		}
	}
	if untrue < 1000 || only < 1000 || several < 1000 || later < 300 {
		t.Error("too few of one kind", untrue, only, several, later)
	}
}

// fewer calls a function with a scene, with one without a mark that excludes something, and so on, until no marks do.
func (s scene) fewer(g *rand.Rand, see func(s scene) []int) {
	for ids := see(s); len(ids) > 0; ids = see(s) {
		s = s.just(minus(s.ids(), list(someOf(g, ids))))
	}
}

// P9.4: the first one of the shortest lists, of all lists of marks.
func TestWhyByTheWord(t *testing.T) {
	g := rand.New(rand.NewSource(4))
	bad, first, lengths := 0, 0, map[int]int{}
	for range 4000 {
		s := someOf(g, append(sizes(), slices.Repeat([]size{star()}, 6)...)).some(g)
		x := s.tried()
		for room := range s.Rooms {
			isSo := func(ids []int) bool { return x.excludes(ids, room) }
			s.fewer(g, func(s scene) []int {
				ids, found := s.why(t, room)
				if found != isSo(s.ids()) {
					t.Fatal(room, ids, found, s)
				}
				if !found {
					bad++
					return nil
				}
				want, count := firstOf(s.ids(), isSo)
				if !slices.Equal(ids, want) {
					t.Fatal(room, ids, want, s)
				}
				if count > 1 {
					first++
				}
				lengths[len(ids)]++
				return ids
			})
		}
	}
	if bad < 500 || first < 500 || lengths[0] > 0 || lengths[1] < 500 || lengths[2] < 500 || lengths[3] < 15 {
		t.Error("too few of one kind", bad, first, lengths)
	}
}

// P9.5: the first one of the shortest lists, of all lists of marks.
func TestAgainstByTheWord(t *testing.T) {
	g := rand.New(rand.NewSource(5))
	first, lengths := 0, map[int]int{}
	for range 3000 {
		s := someOf(g, append(sizes(), slices.Repeat([]size{star()}, 6)...)).some(g)
		x := s.tried()
		isSo := func(ids []int) bool { return x.excludes(ids, s.allRooms()...) }
		s.fewer(g, func(s scene) []int {
			ids := s.against(t)
			lengths[len(ids)]++
			if !isSo(s.ids()) {
				if len(ids) > 0 {
					t.Fatal(ids, s)
				}
				return nil
			}
			want, count := firstOf(s.ids(), isSo)
			if !slices.Equal(ids, want) {
				t.Fatal(ids, want, s)
			}
			if count > 1 {
				first++
			}
			return ids
		})
	}
	if first < 500 || lengths[0] < 500 || lengths[1] < 200 || lengths[2] < 200 || lengths[3] < 30 || lengths[4] < 3 {
		t.Error("too few of one kind", first, lengths)
	}
}

// P9.6, N9: for each minute that is told there is a truth, which is returned, and for no other one.
func TestMinutesHaveTruths(t *testing.T) {
	g := rand.New(rand.NewSource(6))
	told, others := 0, 0
	for range 800 {
		s := someOf(g, append(sizes(), huge())).some(g)
		for room := range s.Rooms {
			minutes := oneByOne(s.minutes(t, room))
			if slices.Contains(s.rooms(t), room) != (len(minutes) > 0) {
				t.Fatal(room, minutes, s)
			}
			for range 20 {
				minute := between(g, 0, s.End)
				if len(minutes) > 0 && g.Intn(2) == 0 {
					minute = someOf(g, minutes)
				}
				delays, found := s.truth(t, room, minute)
				if found != slices.Contains(minutes, minute) {
					t.Fatal(room, minute, delays, minutes, s)
				}
				if !found {
					others++
					continue
				}
				told++
				isDelay := func(i int) bool { return s.Gates[i].Delay.Lo <= delays[i] && delays[i] <= s.Gates[i].Delay.Hi }
				for i := range s.Gates {
					if len(delays) != len(s.Gates) || !isDelay(i) {
						t.Fatal(room, minute, delays, s)
					}
				}
				if !s.isTruth(room, minute, delays) {
					t.Fatal(room, minute, delays, s)
				}
			}
		}
	}
	if told < 2000 || others < 2000 {
		t.Error("too few of one kind", told, others)
	}
}

// P9.6, N9: a room that is not told is excluded by the marks that Why names, and by none of fewer ones; a room that is named is the only one.
func TestWhatExcludes(t *testing.T) {
	g := rand.New(rand.NewSource(7))
	excluded, fewer, named := 0, 0, 0
	for range 1200 {
		s := someOf(g, append(sizes(), huge())).some(g)
		room, e := s.named(t)
		if e == api.OK {
			named++
		}
		for other := range s.Rooms {
			ids, found := s.why(t, other)
			if found == slices.Contains(s.rooms(t), other) || e == api.OK && found != (other != room) {
				t.Fatal(room, e, other, ids, s)
			}
			if !found {
				continue
			}
			excluded++
			if len(minus(ids, s.ids())) > 0 || slices.Contains(s.just(ids).rooms(t), other) {
				t.Fatal(other, ids, s)
			}
			lists(s.ids(), len(ids)-1, nil, func(few []int) {
				fewer++
				if !slices.Contains(s.just(few).rooms(t), other) {
					t.Fatal(other, ids, few, s)
				}
			})
		}
	}
	if excluded < 500 || fewer < 2000 || named < 100 {
		t.Error("too few of one kind", excluded, fewer, named)
	}
}

// P9.9: marks that Against names allow none, but do without any one of them.
func TestWhatAllowsNone(t *testing.T) {
	g := rand.New(rand.NewSource(8))
	none, several := 0, 0
	for range 1500 {
		s := someOf(g, append(sizes(), huge(), star())).some(g)
		s.fewer(g, func(s scene) []int {
			ids := s.against(t)
			if (len(ids) == 0) != (len(s.rooms(t)) > 0) {
				t.Fatal(ids, s)
			}
			if len(ids) == 0 {
				return nil
			}
			none++
			if len(ids) > 2 {
				several++
			}
			if len(s.just(ids).rooms(t)) > 0 {
				t.Fatal(ids, s)
			}
			for _, id := range ids {
				if len(s.just(minus(ids, list(id))).rooms(t)) == 0 {
					t.Fatal(ids, id, s)
				}
			}
			return ids
		})
	}
	if none < 700 || several < 20 {
		t.Error("too few of one kind", none, several)
	}
}

// free is an Id that no mark of a scene has.
func (s scene) free() int {
	id := 0
	for slices.Contains(s.ids(), id) {
		id++
	}
	return id
}

// plus returns a copy with a mark more, in its place by its Id.
func (s scene) plus(m api.Mark) scene {
	s = s.more(m)
	slices.SortFunc(s.Marks, func(a, b api.Mark) int { return a.Id - b.Id })
	return s
}

// P9.7: with a mark more no room and no minute is added, and one that is so in all truths takes none away.
func TestOneMarkMore(t *testing.T) {
	g := rand.New(rand.NewSource(9))
	fewer, same := 0, 0
	for range 1500 {
		s := someOf(g, sizes()).some(g)
		s.Marks = s.Marks[:min(len(s.Marks), between(g, 0, api.MaxMarks-1))]
		x, m := s.tried(), s.someMark(g, s.free())
		isSo := func(room, minute int) bool {
			return !slices.ContainsFunc(x.truths[room][minute], func(delays []int) bool {
				return !s.isSo(m, later(s.comes(delays, room), minute))
			})
		}
		isAlways, isLess := true, false
		for room := range s.Rooms {
			minutes, after := oneByOne(s.minutes(t, room)), oneByOne(s.plus(m).minutes(t, room))
			if len(minus(after, minutes)) > 0 {
				t.Fatal(room, m, minutes, after, s)
			}
			isLess = isLess || len(after) < len(minutes)
			for _, minute := range minutes {
				isAlways = isAlways && isSo(room, minute)
			}
		}
		if len(minus(s.plus(m).rooms(t), s.rooms(t))) > 0 || isAlways && isLess {
			t.Fatal(m, s)
		}
		if isLess {
			fewer++
		} else if isAlways && len(s.rooms(t)) > 0 {
			same++
		}
	}
	if fewer < 200 || same < 100 {
		t.Error("too few of one kind", fewer, same)
	}
}

// expectSame checks that two scenes have the same rooms, minutes and truths.
func expectSame(t *testing.T, s, other scene) {
	t.Helper()
	if a, b := s.rooms(t), other.rooms(t); !slices.Equal(a, b) {
		t.Fatal(a, b, s, other)
	}
	for room := range s.Rooms {
		minutes := s.minutes(t, room)
		if others := other.minutes(t, room); !slices.Equal(minutes, others) {
			t.Fatal(room, minutes, others, s, other)
		}
		for _, span := range minutes {
			for _, minute := range list(span.Lo-1, span.Lo, span.Hi) {
				a, found := s.truth(t, room, minute)
				if b, same := other.truth(t, room, minute); found != same || !slices.Equal(a, b) {
					t.Fatal(room, minute, a, b, s, other)
				}
			}
		}
	}
}

// P9.7: marks in another order, under other Ids, tell the same.
func TestOtherIds(t *testing.T) {
	g := rand.New(rand.NewSource(10))
	why, against := 0, 0
	for range 1200 {
		s := someOf(g, append(sizes(), huge())).some(g)
		ids := someIds(g, len(s.Marks), 0, api.MaxId)
		renamed := s.with(func(s *scene) {
			for i := range s.Marks {
				s.Marks[i].Id = ids[i]
			}
		})
		mixed := renamed.with(func(s *scene) {
			g.Shuffle(len(s.Marks), func(i, j int) { s.Marks[i], s.Marks[j] = s.Marks[j], s.Marks[i] })
			for i := range s.Marks {
				s.Marks[i].Id = ids[i]
			}
		})
		expectSame(t, s, renamed)
		expectSame(t, s, mixed)
		// In the same order they have the same places; in another one there are as many.
		places := func(all, some []int) []int {
			var places []int
			for _, id := range some {
				places = append(places, slices.Index(all, id))
			}
			return places
		}
		check := func(a, b, c []int) {
			if !slices.Equal(places(s.ids(), a), places(ids, b)) || len(a) != len(c) {
				t.Fatal(a, b, c, s, mixed)
			}
		}
		for room := range s.Rooms {
			a, found := s.why(t, room)
			b, same := renamed.why(t, room)
			c, alike := mixed.why(t, room)
			if found != same || found != alike {
				t.Fatal(room, s, mixed)
			}
			check(a, b, c)
			why += len(a)
		}
		a := s.against(t)
		check(a, renamed.against(t), mixed.against(t))
		against += len(a)
	}
	if why < 1000 || against < 300 {
		t.Error("too few of one kind", why, against)
	}
}

// P9.8: if all is later by some minutes, each minute that was told is told as much later, with the same truth.
func TestAllLater(t *testing.T) {
	g := rand.New(rand.NewSource(11))
	told := 0
	for range 1500 {
		s := someOf(g, sizes()).some(g)
		by := someOf(g, list(1, 2, 7, 100, 500))
		other := s.with(func(s *scene) {
			s.End += by
			for i := range s.Marks {
				if m := &s.Marks[i]; m.Kind <= api.MarkBurns {
					m.At = span(m.At.Lo+by, m.At.Hi+by)
				}
			}
		})
		for room := range s.Rooms {
			minutes, after := oneByOne(s.minutes(t, room)), oneByOne(other.minutes(t, room))
			for _, minute := range minutes {
				a, _ := s.truth(t, room, minute)
				b, found := other.truth(t, room, minute+by)
				if !found || !slices.Equal(a, b) || !slices.Contains(after, minute+by) {
					t.Fatal(room, minute, by, a, b, after, s)
				}
				told++
			}
			// What is told besides began before the first minute that there was.
			for _, minute := range after {
				if minute >= by && !slices.Contains(minutes, minute-by) {
					t.Fatal(room, minute, by, minutes, s)
				}
			}
		}
	}
	if told < 3000 {
		t.Error("too few", told)
	}
}

// P9.8: gates that are told from the other side change nothing.
func TestOtherSide(t *testing.T) {
	g := rand.New(rand.NewSource(12))
	gates := 0
	for range 800 {
		s := someOf(g, append(sizes(), huge())).some(g)
		other := s.with(func(s *scene) {
			for i := range s.Gates {
				if g.Intn(2) == 0 {
					s.Gates[i].A, s.Gates[i].B = s.Gates[i].B, s.Gates[i].A
					gates++
				}
			}
		})
		expectSame(t, s, other)
		expectSameMarks(t, s, other)
	}
	if gates < 500 {
		t.Error("too few", gates)
	}
}

// expectSameMarks checks that the same marks exclude rooms of two scenes.
func expectSameMarks(t *testing.T, s, other scene) {
	t.Helper()
	for room := range s.Rooms {
		a, found := s.why(t, room)
		if b, same := other.why(t, room); found != same || !slices.Equal(a, b) {
			t.Fatal(room, a, b, s, other)
		}
	}
	if a, b := s.against(t), other.against(t); !slices.Equal(a, b) {
		t.Fatal(a, b, s, other)
	}
}

// P9.8: gates in another order change nothing but the order of delays, by which another truth may be the first one.
func TestOrderOfGates(t *testing.T) {
	g := rand.New(rand.NewSource(13))
	told, only := 0, 0
	for range 800 {
		s := someOf(g, append(sizes(), huge())).some(g)
		places := g.Perm(len(s.Gates))
		other := s.with(func(x *scene) {
			for i, place := range places {
				x.Gates[place] = s.Gates[i]
			}
		})
		expectSameMarks(t, s, other)
		for room := range s.Rooms {
			minutes := s.minutes(t, room)
			if others := other.minutes(t, room); !slices.Equal(minutes, others) {
				t.Fatal(room, minutes, others, s, other)
			}
			for _, span := range minutes {
				minute := between(g, span.Lo, span.Hi)
				delays, _ := other.truth(t, room, minute)
				var back []int
				for _, place := range places {
					back = append(back, delays[place])
				}
				if !s.isTruth(room, minute, back) {
					t.Fatal(room, minute, delays, back, s)
				}
				told++
				if slices.IndexFunc(s.Gates, func(g api.Gate) bool { return g.Delay.Lo != g.Delay.Hi }) < 0 {
					expectTruth(t, s, s, room, minute, back...)
					only++
				}
			}
		}
	}
	if told < 500 || only < 50 {
		t.Error("too few of one kind", told, only)
	}
}

// P9.10: without marks any room and any minute until End; a clock whose time is known to the minute allows at most one minute of its room.
func TestFewMarks(t *testing.T) {
	g := rand.New(rand.NewSource(14))
	one, none := 0, 0
	for range 800 {
		s := someOf(g, append(sizes(), huge())).some(g)
		for room := range s.Rooms {
			expectMinutes(t, s, s.marked(), room, span(0, s.End))
			if len(s.Marks) == api.MaxMarks {
				continue
			}
			minute := between(g, 0, min(s.End+1, api.MaxMinute))
			x := s.plus(clock(s.free(), room, minute, minute))
			minutes := oneByOne(x.minutes(t, room))
			if len(minutes) > 1 || len(minutes) == 1 && minutes[0] != minute {
				t.Fatal(room, minute, minutes, x)
			}
			one += len(minutes)
			none += 1 - len(minutes)
		}
		expectRooms(t, s, s.marked(), s.allRooms()...)
		expectAgainst(t, s, s.marked())
	}
	if one < 300 || none < 300 {
		t.Error("too few of one kind", one, none)
	}
}
