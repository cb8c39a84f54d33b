package exits_test

import (
	"math/rand"
	"slices"
	"testing"

	"cottonpad/api"
)

func expectLeaves(t *testing.T, name any, s scene, stair int, want ...api.Span) {
	t.Helper()
	if list := s.leaves(t, stair); !slices.Equal(list, want) {
		t.Error(name, "Leaves", stair, list, want)
	}
}

func expectOut(t *testing.T, name any, s scene, want api.Span) {
	t.Helper()
	if out := s.out(t); out != want {
		t.Error(name, "Out", out, want)
	}
}

func expectSafe(t *testing.T, name any, s scene, known uint8, chamber, stair int) {
	t.Helper()
	if got, want := s.safe(t), (told{known: known, chamber: chamber, stair: stair}); got != want {
		t.Error(name, "Safe", got, want)
	}
}

func expectMore(t *testing.T, name any, s scene, like api.Walker, want int) {
	t.Helper()
	if n := s.more(t, like); n != want {
		t.Error(name, "More", n, want)
	}
}

// TestExamples: those of the chapter, and the one of DOC.md (P6.1 to P6.4).
func TestExamples(t *testing.T) {
	s := example()
	expectLeaves(t, "example", s, 0, span(30, 40), span(32, 42))
	expectLeaves(t, "example", s, 1, span(33, 36), span(36, 45), span(39, 48))
	expectOut(t, "example", s, span(39, 48))
	expectSafe(t, "example", s, api.KnownYes, -1, -1)
	expectSafe(t, "chamber", s.with(func(s *scene) { s.b.Chambers[0].Smoke = span(27, 40) }), api.KnownOpen, 0, -1)
	expectSafe(t, "stair", s.with(func(s *scene) { s.b.Stairs[1].Smoke = span(40, 47) }), api.KnownOpen, -1, 1)
	expectMore(t, "example", s, s.w[0], 7)
}

// single is a building of one stair to the outside, and of one chamber, with smoke that comes at the very end.
func single(gap, walk, way int) api.Building {
	return api.Building{
		Stairs:   []api.Stair{{Next: api.Outside, Gap: gap, Walk: only(walk), Smoke: only(api.MaxTime)}},
		Chambers: []api.Chamber{{Way: way, Smoke: only(api.MaxTime)}},
	}
}

// TestNoPeople: nobody is late, nobody leaves (P6.1, P6.2, P6.3).
func TestNoPeople(t *testing.T) {
	for i, people := range [][]api.Walker{nil, {}} {
		s := example()
		s.w = people
		expectLeaves(t, i, s, 0)
		expectLeaves(t, i, s, 1)
		expectOut(t, i, s, span(0, 0))
		expectSafe(t, i, s, api.KnownYes, -1, -1)
		// Without the others the last one of k leaves the chamber at 28, the stair 0 at 38 and 2 times k, and the stair 1 at 42 and 3 times k.
		expectMore(t, i, s, example().w[0], 9)
		for j := range s.b.Stairs {
			s.b.Stairs[j].Smoke = only(0)
		}
		for j := range s.b.Chambers {
			s.b.Chambers[j].Smoke = only(0)
		}
		expectSafe(t, i, s, api.KnownYes, -1, -1)
		expectMore(t, i, s, example().w[0], 0)
	}
}

// TestAlike: people who all wait alike, and come to a stair at once, enter it one after the other (P6.1, P6.2).
func TestAlike(t *testing.T) {
	alike := slices.Repeat([]api.Walker{{Pace: only(1000), Wait: only(10)}}, 4)
	s := scene{single(7, 5, 2000), alike}
	expectLeaves(t, "alike", s, 0, only(17), only(24), only(31), only(38))
	expectOut(t, "alike", s, only(38))
	s.b.Stairs[0].Gap = 0
	expectLeaves(t, "Gap of 0", s, 0, only(17), only(17), only(17), only(17))
	expectOut(t, "Gap of 0", s, only(17))
	s.b.Stairs[0].Gap = 1
	expectLeaves(t, "Gap of 1", s, 0, only(17), only(18), only(19), only(20))
	s.b.Stairs[0].Walk = span(0, 5)
	s.w[3].Wait = span(11, 14)
	expectLeaves(t, "spans", s, 0, span(12, 17), span(13, 18), span(14, 19), span(15, 21))
}

// TestGaps: who comes while another one has just entered waits for the rest of the Gap, and no one else does (P6.1).
func TestGaps(t *testing.T) {
	for _, x := range []struct {
		waits, leave []int
	}{
		{[]int{0, 1}, []int{5, 15}},
		{[]int{0, 9}, []int{5, 15}},
		{[]int{0, 10}, []int{5, 15}},
		{[]int{0, 11}, []int{5, 16}},
		{[]int{0, 0, 0}, []int{5, 15, 25}},
		{[]int{0, 5, 19}, []int{5, 15, 25}},
		{[]int{0, 5, 21}, []int{5, 15, 26}},
		{[]int{0, 5, 40}, []int{5, 15, 45}},
		{[]int{40, 5, 0}, []int{5, 15, 45}},
		{[]int{19, 0, 5}, []int{5, 15, 25}},
		{[]int{100, 0, 100, 0}, []int{5, 15, 105, 115}},
		{[]int{3600}, []int{3605}},
	} {
		s := scene{b: single(10, 5, 0)}
		for _, wait := range x.waits {
			s.w = append(s.w, api.Walker{Pace: only(100), Wait: only(wait)})
		}
		var want []api.Span
		for _, at := range x.leave {
			want = append(want, only(at))
		}
		expectLeaves(t, x.waits, s, 0, want...)
		expectOut(t, x.waits, s, want[len(want)-1])
	}
}

// TestOvertaking: who is the first one in one truth need not be in another one, so that the spans are of the places, not of people (P6.1, P6.6).
func TestOvertaking(t *testing.T) {
	s := scene{b: single(2, 0, 0), w: []api.Walker{{Pace: only(100), Wait: span(0, 50)}, {Pace: only(100), Wait: span(10, 20)}}}
	expectLeaves(t, "overtaking", s, 0, span(0, 20), span(10, 50))
	expectOut(t, "overtaking", s, span(10, 50))
	s.w[0].Wait = span(0, 20)
	expectLeaves(t, "at once", s, 0, span(0, 20), span(10, 22))
}

// TestWays: a Way of 0, ways that the pace divides, and ways that it does not (P6.1).
func TestWays(t *testing.T) {
	for _, x := range []struct {
		way  int
		pace api.Span
		want api.Span
	}{
		{0, span(100, 3000), span(0, 0)},
		{1, span(100, 3000), span(1, 1)},
		{99, only(100), only(1)},
		{100, only(100), only(1)},
		{101, only(100), only(2)},
		{3000, span(100, 3000), span(1, 30)},
		{3001, span(100, 3000), span(2, 31)},
		{2999, span(2999, 3000), span(1, 1)},
		{10000, span(800, 1000), span(10, 13)},
		{10400, span(800, 1000), span(11, 13)},
		{100000, span(100, 3000), span(34, 1000)},
	} {
		s := scene{b: single(0, 0, x.way), w: []api.Walker{{Pace: x.pace, Wait: only(7)}}}
		want := span(x.want.Lo+7, x.want.Hi+7)
		expectLeaves(t, x, s, 0, want)
		expectOut(t, x, s, want)
		expectSafe(t, x, s, api.KnownYes, -1, -1)
	}
}

// TestUnusedStair: nobody takes a stair, whose smoke does not matter; it has no last one who is out (P6.1, P6.2, P6.3).
func TestUnusedStair(t *testing.T) {
	s := example().with(func(s *scene) {
		s.b.Stairs = append(s.b.Stairs, api.Stair{Next: api.Outside, Gap: 60, Walk: only(600), Smoke: only(0)})
	})
	expectLeaves(t, "unused", s, 2)
	expectLeaves(t, "unused", s, 1, span(33, 36), span(36, 45), span(39, 48))
	expectOut(t, "unused", s, span(39, 48))
	expectSafe(t, "unused", s, api.KnownYes, -1, -1)
	s.b.Stairs[0].Next = 2
	expectLeaves(t, "taken", s, 1, span(33, 36))
	expectLeaves(t, "taken", s, 2, span(630, 640), span(690, 700))
	expectOut(t, "taken", s, span(690, 700))
	expectSafe(t, "taken", s, api.KnownNo, -1, 2)
	s.b.Stairs[0].Next = api.Outside
	expectLeaves(t, "both outside", s, 1, span(33, 36))
	expectLeaves(t, "both outside", s, 2)
	expectOut(t, "both outside", s, span(33, 42))
}

// TestTime: who leaves a chamber, or a stair, in the second of its smoke is in time, one second after it not (P6.3, P6.5).
func TestTime(t *testing.T) {
	// They leave the chamber 0 from 20 to 28, 1 from 28 to 31, the stair 0 from 32 to 42, and 1 from 39 to 48, the last ones.
	smoke := func(in0, in1, on0, on1 api.Span) scene {
		return example().with(func(s *scene) {
			s.b.Chambers[0].Smoke, s.b.Chambers[1].Smoke, s.b.Stairs[0].Smoke, s.b.Stairs[1].Smoke = in0, in1, on0, on1
		})
	}
	for i, x := range []struct {
		s              scene
		known          uint8
		chamber, stair int
	}{
		{smoke(only(28), only(31), only(42), only(48)), api.KnownYes, -1, -1},
		{smoke(only(27), only(31), only(42), only(48)), api.KnownOpen, 0, -1},
		{smoke(only(28), only(30), only(42), only(48)), api.KnownOpen, 1, -1},
		{smoke(only(28), only(31), only(41), only(48)), api.KnownOpen, -1, 0},
		{smoke(only(28), only(31), only(42), only(47)), api.KnownOpen, -1, 1},
		{smoke(only(27), only(30), only(41), only(47)), api.KnownOpen, 0, 0},
		{smoke(only(28), only(30), only(42), only(47)), api.KnownOpen, 1, 1},
		{smoke(only(20), only(28), only(32), only(39)), api.KnownOpen, 0, 0},
		{smoke(only(19), only(31), only(42), only(48)), api.KnownNo, 0, -1},
		{smoke(only(28), only(27), only(42), only(48)), api.KnownNo, 1, -1},
		{smoke(only(28), only(31), only(31), only(48)), api.KnownNo, -1, 0},
		{smoke(only(28), only(31), only(42), only(38)), api.KnownNo, -1, 1},
		{smoke(span(19, 20), only(31), only(42), only(48)), api.KnownOpen, 0, -1},
		{smoke(span(0, 27), span(0, 30), span(0, 41), span(0, 47)), api.KnownOpen, 0, 0},
		{smoke(span(28, 36000), span(31, 36000), span(42, 36000), span(48, 36000)), api.KnownYes, -1, -1},
		{smoke(only(0), only(0), only(0), only(0)), api.KnownNo, 0, 0},
		// None is safe since somebody is late in the chamber 1; in some truth they are late in 0, too, which is told.
		{smoke(only(27), only(27), only(42), only(48)), api.KnownNo, 0, -1},
		{smoke(only(28), only(27), only(42), only(47)), api.KnownNo, 1, 1},
	} {
		expectSafe(t, i, x.s, x.known, x.chamber, x.stair)
	}
}

// TestMiddle: somebody before the last one is late on a stair whose smoke is soon, and in a chamber by the slowest one of it (P6.3).
func TestMiddle(t *testing.T) {
	s := scene{b: single(0, 5, 1000), w: []api.Walker{
		{Pace: only(1000), Wait: only(3)},
		{Pace: only(100), Wait: only(3)},
		{Pace: only(500), Wait: only(3)},
	}}
	expectLeaves(t, "middle", s, 0, only(9), only(10), only(18))
	for smoke, known := range map[int]uint8{0: 0, 9: 0, 12: 0, 13: 2, 18: 2} {
		s.b.Chambers[0].Smoke = only(smoke)
		chamber := -1
		if known == api.KnownNo {
			chamber = 0
		}
		expectSafe(t, smoke, s, known, chamber, -1)
	}
}

// TestOneByOne: spans of a single number leave nothing open (P6.3, P6.6).
func TestOneByOne(t *testing.T) {
	g := rand.New(rand.NewSource(10))
	seen := map[uint8]int{}
	for range 300 {
		s := large().poised(g)
		u := s.worst()
		for i := range s.w {
			s.w[i].Pace, s.w[i].Wait = only(u.pace[i]), only(u.wait[i])
		}
		for i := range s.b.Stairs {
			s.b.Stairs[i].Walk, s.b.Stairs[i].Smoke = only(u.walk[i]), only(u.smokeOn[i])
		}
		for i := range s.b.Chambers {
			s.b.Chambers[i].Smoke = only(u.smokeIn[i])
		}
		known, out := s.safe(t).known, s.out(t)
		if known == api.KnownOpen || known == api.KnownYes != s.isSafe(u) || out != only(s.course(u).last()) {
			t.Fatal(known, out, s)
		}
		seen[known]++
	}
	if seen[api.KnownNo] < 30 || seen[api.KnownYes] < 30 {
		t.Error("too few of one kind", seen)
	}
}

// greatest is a building with as many stairs and chambers as there may be, and as many people.
func greatest() scene {
	var s scene
	for i := range api.MaxStairs {
		s.b.Stairs = append(s.b.Stairs, api.Stair{Next: i + 1, Gap: api.MaxGap, Walk: span(0, api.MaxWalk), Smoke: only(api.MaxTime)})
	}
	s.b.Stairs[api.MaxStairs-1].Next = api.Outside
	for i := range api.MaxChambers {
		s.b.Chambers = append(s.b.Chambers, api.Chamber{Stair: i % api.MaxStairs, Way: api.MaxLength, Smoke: only(api.MaxTime)})
	}
	for i := range api.MaxWalkers {
		s.w = append(s.w, api.Walker{Chamber: i % api.MaxChambers, Pace: span(api.MinPace, api.MaxPace), Wait: span(0, api.MaxWait)})
	}
	return s
}

// TestGreatest: as many stairs, chambers and walkers as there may be (P6.1 to P6.4).
func TestGreatest(t *testing.T) {
	s := greatest()
	// All come to the first stair at 34 or at 4,600, and walk over all stairs behind each other.
	for i := range s.w {
		s.w[i].Chamber = i % 2 * 6
	}
	for i := range s.b.Stairs {
		var want []api.Span
		for j := range s.w {
			want = append(want, span(34+60*j, 4600+600*(i+1)+60*j))
		}
		expectLeaves(t, "greatest", s, i, want...)
	}
	expectOut(t, "greatest", s, span(34+60*23, 4600+3600+60*23))
	expectSafe(t, "greatest", s, api.KnownYes, -1, -1)
	expectMore(t, "greatest", s, s.w[0], 0)
	s.b.Stairs[5].Smoke = span(4600+3600+60*23-1, 36000)
	expectSafe(t, "greatest", s, api.KnownOpen, -1, 5)
	s.w = s.w[:23]
	expectSafe(t, "greatest", s, api.KnownYes, -1, -1)
	expectMore(t, "greatest", s, s.w[0], 0)

	s = greatest()
	s.b.Chambers[7].Smoke = only(4599)
	expectSafe(t, "last chamber", s, api.KnownOpen, 7, -1)
	low, high := s.course(s.best()), s.course(s.worst())
	expectOut(t, "all chambers", s, span(low.last(), high.last()))
}

// TestRoom: as many walkers more as there is room for, one less, and none (P6.4, P6.9).
func TestRoom(t *testing.T) {
	like := api.Walker{Pace: only(1000), Wait: only(5)}
	for people := range api.MaxWalkers + 1 {
		room := api.MaxWalkers - people
		s := scene{single(10, 3, 0), slices.Repeat([]api.Walker{like}, people)}
		expectMore(t, people, s, like, room)
		// With k of them the last one leaves at 8 and 10 times k less 10.
		for more := range room + 1 {
			if people+more == 0 {
				continue
			}
			s.b.Stairs[0].Smoke = span(10*(people+more)-2, 36000)
			expectMore(t, people, s, like, more)
			s.b.Stairs[0].Smoke = span(10*(people+more)+7, 36000)
			expectMore(t, people, s, like, more)
		}
	}
	// One who is alone would be late in the chamber, or on the stair.
	s := scene{b: single(10, 3, 0)}
	s.b.Chambers[0].Smoke = span(4, 10)
	expectMore(t, "late", s, like, 0)
	s.b.Chambers[0].Smoke = span(5, 10)
	expectMore(t, "just in time", s, like, 24)
	// The span of one more counts to its worst end.
	like.Wait = span(0, 6)
	expectMore(t, "perhaps late", s, like, 0)
	like.Wait = span(0, 5)
	expectMore(t, "never late", s, like, 24)
}

// TestMoreOfOthers: one more who goes another way, or is out before, makes others late just if they have to wait for that (P6.4, P6.9).
func TestMoreOfOthers(t *testing.T) {
	s := example()
	// All of the chamber 1 come to the stair 1 at 31, those of the stair 0 later: with k more, if there are 3 or more, the last one leaves it at 42 and 3 times k.
	expectMore(t, "chamber 1", s, s.w[2], 9)
	s.b.Stairs[1].Smoke = only(48)
	// The eleventh one enters the stair 1 at 32, those behind at 35, 40 and 43; with one more they do at 38, 41 and 44.
	quick := api.Walker{Chamber: 1, Pace: only(3000), Wait: only(0)}
	expectMore(t, "quick", s, quick, 11)
	// One more out of the chamber 0 is behind all others.
	expectMore(t, "chamber 0", s, s.w[0], 0)
}
