package exits_test

import (
	"math/rand"
	"reflect"
	"slices"
	"testing"

	"cottonpad/api"
)

// ends are the least and the greatest of some numbers that are seen one by one.
type ends struct {
	s    api.Span
	seen bool
}

func (e *ends) see(n int) {
	if !e.seen {
		e.s, e.seen = only(n), true
	}
	e.s = span(min(e.s.Lo, n), max(e.s.Hi, n))
}

// wanted is all that has to be told of a scene, by all its truths.
type wanted struct {
	leaves [][]ends
	out    ends
	safe   told
}

func (s scene) wanted() wanted {
	want := wanted{leaves: make([][]ends, len(s.b.Stairs)), safe: told{chamber: -1, stair: -1}}
	some, all := false, true
	s.truths(func(u truth) {
		c := s.course(u)
		want.out.see(c.last())
		for i, list := range c.stairs {
			if want.leaves[i] == nil {
				want.leaves[i] = make([]ends, len(list))
			}
			for j, at := range list {
				want.leaves[i][j].see(at)
			}
		}
		chambers, stairs := s.late(u, c)
		want.safe.chamber, want.safe.stair = first(want.safe.chamber, chambers), first(want.safe.stair, stairs)
		safe := len(chambers)+len(stairs) == 0
		some, all = some || safe, all && safe
	})
	switch {
	case all:
		want.safe.known = api.KnownYes
	case some:
		want.safe.known = api.KnownOpen
	}
	return want
}

// first is the least index that was seen, or is the first one of a list; -1 is none.
func first(seen int, list []int) int {
	if len(list) == 0 || seen >= 0 && seen < list[0] {
		return seen
	}
	return list[0]
}

// P6.1, P6.2, P6.3, P6.5, P6.6 and N6: all that is told, by all truths.
func TestAllTruths(t *testing.T) {
	g := rand.New(rand.NewSource(1))
	known, wide, empty, chambers, stairs := map[uint8]int{}, 0, 0, map[int]int{}, map[int]int{}
	for range 1200 {
		s := small().poised(g)
		want := s.wanted()
		for i, list := range want.leaves {
			leaves := s.leaves(t, i)
			if len(leaves) != len(list) {
				t.Fatal(leaves, list, s)
			}
			for j, e := range list {
				if leaves[j] != e.s {
					t.Fatal(leaves, list, s)
				}
				if e.s.Lo < e.s.Hi {
					wide++
				}
			}
			if len(list) == 0 {
				empty++
			}
		}
		if out := s.out(t); out != want.out.s {
			t.Fatal(out, want.out, s)
		}
		safe := s.safe(t)
		if safe != want.safe {
			t.Fatal(safe, want.safe, s)
		}
		known[safe.known]++
		chambers[safe.chamber]++
		stairs[safe.stair]++
	}
	if known[0] < 50 || known[1] < 100 || known[2] < 100 || wide < 500 || empty < 100 {
		t.Error("too few of one kind", known, wide, empty)
	}
	if chambers[-1] < 100 || chambers[0] < 50 || chambers[1] < 30 || stairs[-1] < 100 || stairs[0] < 50 || stairs[1] < 30 || stairs[2] < 20 {
		t.Error("too few of one kind", chambers, stairs)
	}
}

// sizes are scenes whose truths are too many to go through.
func sizes() []scale { return []scale{large(), large(), huge()} }

// P6.1, P6.2, P6.6 and N6: in each truth of any scene each time is in its span, and both ends come about.
func TestTimesOfSomeTruths(t *testing.T) {
	g := rand.New(rand.NewSource(2))
	wide := 0
	for range 250 {
		s := someOf(g, sizes()).some(g)
		low, high, any := s.course(s.best()), s.course(s.worst()), s.course(s.someTruth(g))
		for i := range s.b.Stairs {
			leaves := s.leaves(t, i)
			if len(leaves) != len(low.stairs[i]) {
				t.Fatal(leaves, low.stairs[i], s)
			}
			for j, l := range leaves {
				if l != span(low.stairs[i][j], high.stairs[i][j]) || any.stairs[i][j] < l.Lo || any.stairs[i][j] > l.Hi {
					t.Fatal(l, low.stairs[i], high.stairs[i], any.stairs[i], s)
				}
				if l.Lo < l.Hi {
					wide++
				}
			}
		}
		out := s.out(t)
		if out != span(low.last(), high.last()) || any.last() < out.Lo || any.last() > out.Hi {
			t.Fatal(out, low.last(), high.last(), any.last(), s)
		}
	}
	if wide < 500 {
		t.Error("too few", wide)
	}
}

// P6.3, P6.5 and N6: if it is known nobody is late in any truth; what is shown comes about, and nothing before it.
func TestSafeOfSomeTruths(t *testing.T) {
	g := rand.New(rand.NewSource(3))
	known, chamber, stair := map[uint8]int{}, map[int]int{}, map[int]int{}
	for range 600 {
		s := someOf(g, sizes()).poised(g)
		got, worst := s.safe(t), s.worst()
		chambers, stairs := s.late(worst, s.course(worst))
		want := told{chamber: first(-1, chambers), stair: first(-1, stairs)}
		switch {
		case s.isSafe(worst):
			want.known = api.KnownYes
		case s.isSafe(s.best()):
			want.known = api.KnownOpen
		}
		if got != want {
			t.Fatal(got, want, s)
		}
		any := s.someTruth(g)
		chambers, stairs = s.late(any, s.course(any))
		for _, i := range chambers {
			if got.chamber < 0 || i < got.chamber || got.known == api.KnownYes {
				t.Fatal(got, chambers, s)
			}
		}
		for _, i := range stairs {
			if got.stair < 0 || i < got.stair || got.known == api.KnownYes {
				t.Fatal(got, stairs, s)
			}
		}
		if got.known == api.KnownNo && len(chambers)+len(stairs) == 0 {
			t.Fatal(got, s)
		}
		known[got.known]++
		chamber[got.chamber]++
		stair[got.stair]++
	}
	if known[0] < 50 || known[1] < 50 || known[2] < 50 || len(chamber) < 7 || len(stair) < 6 {
		t.Error("too few of one kind", known, chamber, stair)
	}
}

// P6.7: as many leave a stair as come to it, out of chambers and from other stairs.
func TestNobodyIsLost(t *testing.T) {
	g := rand.New(rand.NewSource(4))
	for range 500 {
		s := someOf(g, append(sizes(), small())).some(g)
		come := map[int]int{}
		for _, w := range s.w {
			come[s.b.Chambers[w.Chamber].Stair]++
		}
		for i, x := range s.b.Stairs {
			if leaves := s.leaves(t, i); len(leaves) != come[i] {
				t.Fatal(i, leaves, come, s)
			}
			come[x.Next] += come[i]
		}
		if come[api.Outside] != len(s.w) {
			t.Fatal(come, s)
		}
	}
}

// everything is all that is told of a scene.
func (s scene) everything(t *testing.T) ([][]api.Span, api.Span, told) {
	t.Helper()
	var all [][]api.Span
	for i := range s.b.Stairs {
		all = append(all, slices.Clone(s.leaves(t, i)))
	}
	return all, s.out(t), s.safe(t)
}

// P6.7: the order of people in the list does not matter.
func TestOrderOfPeople(t *testing.T) {
	g := rand.New(rand.NewSource(5))
	for range 500 {
		s := someOf(g, append(sizes(), small())).poised(g)
		other := s.with(func(s *scene) {
			g.Shuffle(len(s.w), func(i, j int) { s.w[i], s.w[j] = s.w[j], s.w[i] })
		})
		leaves, out, safe := s.everything(t)
		leaves2, out2, safe2 := other.everything(t)
		if !reflect.DeepEqual(leaves, leaves2) || out != out2 || safe != safe2 {
			t.Fatal(s, other)
		}
		if like := large().walker(g, len(s.b.Chambers)); safe.known == api.KnownYes && s.more(t, like) != other.more(t, like) {
			t.Fatal(s, other, like)
		}
	}
}

func later(s api.Span, by int) api.Span { return span(s.Lo+by, s.Hi+by) }

// P6.8: with everybody going later by as much, and smoke as well, each time is later by as much, and what is known stays so.
func TestAllLater(t *testing.T) {
	g := rand.New(rand.NewSource(6))
	known, people := map[uint8]int{}, 0
	for range 600 {
		s := someOf(g, []scale{small(), large(), large()}).poised(g)
		for i := range s.b.Stairs {
			s.b.Stairs[i].Smoke.Hi = min(s.b.Stairs[i].Smoke.Hi, 30000)
			s.b.Stairs[i].Smoke.Lo = min(s.b.Stairs[i].Smoke.Lo, 30000)
		}
		for i := range s.b.Chambers {
			s.b.Chambers[i].Smoke.Hi = min(s.b.Chambers[i].Smoke.Hi, 30000)
			s.b.Chambers[i].Smoke.Lo = min(s.b.Chambers[i].Smoke.Lo, 30000)
		}
		by := between(g, 1, 3000)
		other := s.with(func(s *scene) {
			for i := range s.w {
				s.w[i].Wait = later(s.w[i].Wait, by)
			}
			for i := range s.b.Stairs {
				s.b.Stairs[i].Smoke = later(s.b.Stairs[i].Smoke, by)
			}
			for i := range s.b.Chambers {
				s.b.Chambers[i].Smoke = later(s.b.Chambers[i].Smoke, by)
			}
		})
		leaves, out, safe := s.everything(t)
		leaves2, out2, safe2 := other.everything(t)
		for i, list := range leaves {
			for j := range list {
				leaves[i][j] = later(list[j], by)
			}
		}
		if len(s.w) > 0 {
			out = later(out, by)
			people++
		}
		if !reflect.DeepEqual(leaves, leaves2) || out != out2 || safe != safe2 {
			t.Fatal(by, out, out2, safe, safe2, s)
		}
		known[safe.known]++
	}
	if known[0] < 50 || known[1] < 50 || known[2] < 50 || people < 100 {
		t.Error("too few of one kind", known, people)
	}
}

// slower changes something of a scene so that people are no sooner.
func slower(g *rand.Rand, s *scene) {
	x := &s.b.Stairs[g.Intn(len(s.b.Stairs))]
	switch kind := g.Intn(4); {
	case kind == 0:
		x.Gap = min(api.MaxGap, x.Gap+between(g, 1, 10))
	case kind == 1 && len(s.w) > 0:
		w := &s.w[g.Intn(len(s.w))]
		w.Pace.Lo = max(api.MinPace, w.Pace.Lo-between(g, 1, 100))
		w.Pace.Hi = max(w.Pace.Lo, w.Pace.Hi-between(g, 0, 100))
	case kind == 2 && len(s.w) > 0:
		w := &s.w[g.Intn(len(s.w))]
		w.Wait = later(w.Wait, between(g, 0, api.MaxWait-w.Wait.Hi))
	case len(s.w) < api.MaxWalkers:
		s.w = append(s.w, large().walker(g, len(s.b.Chambers)))
	}
}

// P6.8: with a greater Gap, a slower pace, or one more, all are out no earlier, and nothing is safer.
func TestSlower(t *testing.T) {
	g := rand.New(rand.NewSource(7))
	later, worse := 0, 0
	for range 3000 {
		s := someOf(g, append(sizes(), small())).poised(g)
		other := s.with(func(s *scene) { slower(g, s) })
		_, out, safe := s.everything(t)
		_, out2, safe2 := other.everything(t)
		if out2.Lo < out.Lo || out2.Hi < out.Hi {
			t.Fatal(out, out2, s, other)
		}
		if safe2.known > safe.known || safe.chamber >= 0 && (safe2.chamber < 0 || safe2.chamber > safe.chamber) || safe.stair >= 0 && (safe2.stair < 0 || safe2.stair > safe.stair) {
			t.Fatal(safe, safe2, s, other)
		}
		if out2 != out {
			later++
		}
		if safe2 != safe {
			worse++
		}
	}
	if later < 300 || worse < 100 {
		t.Error("too few of one kind", later, worse)
	}
}

// P6.4 and P6.9: with as many more each truth is safe, with one more not each one is; or there is no room.
func TestMore(t *testing.T) {
	g := rand.New(rand.NewSource(8))
	counts, full := map[int]int{}, 0
	for range 4000 {
		s := someOf(g, sizes()).poised(g)
		// Smoke comes so late in many places that some more may leave in time.
		by := between(g, 0, 60)
		for i := range s.b.Stairs {
			s.b.Stairs[i].Smoke = span(min(api.MaxTime, s.b.Stairs[i].Smoke.Lo+by), api.MaxTime)
		}
		if s.safe(t).known != api.KnownYes {
			continue
		}
		like := large().walker(g, len(s.b.Chambers))
		if len(s.w) > 0 && g.Intn(2) == 0 {
			like = someOf(g, s.w)
		}
		n := s.more(t, like)
		if n < 0 || n > api.MaxWalkers-len(s.w) {
			t.Fatal(n, s)
		}
		joined := s.joined(slices.Repeat([]api.Walker{like}, n)...)
		if joined.safe(t).known != api.KnownYes || !joined.isSafe(joined.worst()) {
			t.Fatal(n, like, s)
		}
		if len(joined.w) == api.MaxWalkers {
			full++
			continue
		}
		joined.w = append(joined.w, like)
		if joined.safe(t).known == api.KnownYes || joined.isSafe(joined.worst()) {
			t.Fatal(n, like, s)
		}
		counts[n]++
	}
	if counts[0] < 50 || counts[1] < 10 || counts[2] < 5 || full < 50 {
		t.Error("too few of one kind", counts, full)
	}
}

// P6.4 and P6.9: the same, by all truths of small scenes.
func TestMoreOfAllTruths(t *testing.T) {
	g := rand.New(rand.NewSource(9))
	seen := map[int]int{}
	for range 600 {
		s := small().poised(g)
		s.w = s.w[:min(2, len(s.w))]
		if s.wanted().safe.known != api.KnownYes {
			continue
		}
		like := small().walker(g, len(s.b.Chambers))
		if len(s.w) > 0 && g.Intn(2) == 0 {
			like = s.w[0]
		}
		want := 0
		for want < 2 && s.joined(slices.Repeat([]api.Walker{like}, want+1)...).wanted().safe.known == api.KnownYes {
			want++
		}
		n := s.more(t, like)
		if min(n, 2) != want {
			t.Fatal(n, want, like, s)
		}
		seen[want]++
	}
	if seen[0] < 30 || seen[1] < 10 || seen[2] < 30 {
		t.Error("too few of one kind", seen)
	}
}
