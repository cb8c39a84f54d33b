package exits_test

import (
	"math/rand"
	"slices"
	"testing"

	"cottonpad/api"
	"cottonpad/exits"
)

func span(lo, hi int) api.Span { return api.Span{Lo: lo, Hi: hi} }

func only(n int) api.Span { return span(n, n) }

// scene is a building with people.
type scene struct {
	b api.Building
	w []api.Walker
}

// example is that of the chapter's examples.
func example() scene {
	return scene{
		b: api.Building{
			Stairs: []api.Stair{
				{Next: 1, Gap: 2, Walk: span(10, 12), Smoke: span(60, 90)},
				{Next: api.Outside, Gap: 3, Walk: span(5, 5), Smoke: span(70, 100)},
			},
			Chambers: []api.Chamber{
				{Stair: 0, Way: 10000, Smoke: span(30, 40)},
				{Stair: 1, Way: 4000, Smoke: span(40, 50)},
			},
		},
		w: []api.Walker{
			{Chamber: 0, Pace: span(800, 1000), Wait: span(10, 15)},
			{Chamber: 0, Pace: span(800, 1000), Wait: span(10, 15)},
			{Chamber: 1, Pace: span(400, 500), Wait: span(20, 21)},
		},
	}
}

// copied is a scene in memory of its own.
func (s scene) copied() scene {
	s.b.Stairs, s.b.Chambers, s.w = slices.Clone(s.b.Stairs), slices.Clone(s.b.Chambers), slices.Clone(s.w)
	return s
}

// with returns a copy with a change.
func (s scene) with(change func(s *scene)) scene {
	s = s.copied()
	change(&s)
	return s
}

// joined returns a copy with more walkers.
func (s scene) joined(more ...api.Walker) scene {
	return s.with(func(s *scene) { s.w = append(s.w, more...) })
}

func (s scene) leaves(t *testing.T, stair int) []api.Span {
	t.Helper()
	list, e := exits.Leaves(s.b, s.w, stair)
	if e != api.OK {
		t.Fatal("Leaves", stair, e, s)
	}
	return list
}

func (s scene) out(t *testing.T) api.Span {
	t.Helper()
	out, e := exits.Out(s.b, s.w)
	if e != api.OK {
		t.Fatal("Out", e, s)
	}
	return out
}

// told is what Safe tells.
type told struct {
	known          uint8
	chamber, stair int
}

func (s scene) safe(t *testing.T) told {
	t.Helper()
	known, chamber, stair, e := exits.Safe(s.b, s.w)
	if e != api.OK {
		t.Fatal("Safe", e, s)
	}
	return told{known: known, chamber: chamber, stair: stair}
}

func (s scene) more(t *testing.T, like api.Walker) int {
	t.Helper()
	n, e := exits.More(s.b, s.w, like)
	if e != api.OK {
		t.Fatal("More", e, s, like)
	}
	return n
}

// truth is a number of Pace and of Wait of each walker, one of Walk of each stair, and one of Smoke of each chamber and each stair.
type truth struct {
	pace, wait, walk, smokeIn, smokeOn []int
}

// pick is a truth with a number of each span; those of waits and walks make people late, those of paces and smoke give them time.
func (s scene) pick(of func(s api.Span, late bool) int) truth {
	var u truth
	for _, w := range s.w {
		u.pace = append(u.pace, of(w.Pace, false))
		u.wait = append(u.wait, of(w.Wait, true))
	}
	for _, x := range s.b.Stairs {
		u.walk = append(u.walk, of(x.Walk, true))
		u.smokeOn = append(u.smokeOn, of(x.Smoke, false))
	}
	for _, c := range s.b.Chambers {
		u.smokeIn = append(u.smokeIn, of(c.Smoke, false))
	}
	return u
}

func (s scene) best() truth {
	return s.pick(func(s api.Span, late bool) int {
		if late {
			return s.Lo
		}
		return s.Hi
	})
}

func (s scene) worst() truth {
	return s.pick(func(s api.Span, late bool) int {
		if late {
			return s.Hi
		}
		return s.Lo
	})
}

func (s scene) someTruth(g *rand.Rand) truth {
	return s.pick(func(s api.Span, _ bool) int { return between(g, s.Lo, s.Hi) })
}

// truths calls a function with all truths of a scene.
func (s scene) truths(see func(u truth)) {
	var spans []api.Span
	s.pick(func(s api.Span, _ bool) int {
		spans = append(spans, s)
		return 0
	})
	choices(spans, nil, func(list []int) {
		i := -1
		see(s.pick(func(api.Span, bool) int {
			i++
			return list[i]
		}))
	})
}

// choices calls a function with each list of one number of each span.
func choices(spans []api.Span, begun []int, see func(list []int)) {
	if len(begun) == len(spans) {
		see(begun)
		return
	}
	s := spans[len(begun)]
	for i := s.Lo; i <= s.Hi; i++ {
		choices(spans, append(begun, i), see)
	}
}

// course is what comes about in a truth: when each walker leaves the chamber, when people leave each stair, and when they are out.
type course struct {
	chamber []int
	stairs  [][]int
	out     []int
}

// walked is how long a way takes: the least number of seconds in which the pace covers it.
func walked(way, pace int) int {
	seconds := 0
	for seconds*pace < way {
		seconds++
	}
	return seconds
}

// watch is what is seen second by second: who comes to which stair in which second, and who was the last one to enter it.
type watch struct {
	coming  []map[int]int // of each stair: how many come in a second
	waiting []int
	entered []int // -1 if nobody has
	left    int   // how many are not out yet
}

// course goes through a truth second by second.
func (s scene) course(u truth) course {
	c := course{stairs: make([][]int, len(s.b.Stairs))}
	k := watch{waiting: make([]int, len(s.b.Stairs)), left: len(s.w)}
	for range s.b.Stairs {
		k.coming, k.entered = append(k.coming, map[int]int{}), append(k.entered, -1)
	}
	for i, w := range s.w {
		chamber := s.b.Chambers[w.Chamber]
		at := u.wait[i] + walked(chamber.Way, u.pace[i])
		c.chamber = append(c.chamber, at)
		k.coming[chamber.Stair][at]++
	}
	for second := 0; k.left > 0; second++ {
		for i := range s.b.Stairs {
			k.waiting[i] += k.coming[i][second]
			s.enter(u, i, second, &k, &c)
		}
	}
	return c
}

// enter lets all enter a stair who may in a second.
func (s scene) enter(u truth, i, second int, k *watch, c *course) {
	x := s.b.Stairs[i]
	for k.waiting[i] > 0 && (k.entered[i] < 0 || second-k.entered[i] >= x.Gap) {
		k.waiting[i]--
		k.entered[i] = second
		leaves := second + u.walk[i]
		c.stairs[i] = append(c.stairs[i], leaves)
		if x.Next == api.Outside {
			c.out = append(c.out, leaves)
			k.left--
			continue
		}
		k.coming[x.Next][leaves]++
	}
}

// last is when the last one is out, 0 if there are no people.
func (c course) last() int {
	if len(c.out) == 0 {
		return 0
	}
	return slices.Max(c.out)
}

// late are the chambers and the stairs in which people are not in time in a truth, in increasing order.
func (s scene) late(u truth, c course) (chambers, stairs []int) {
	for i := range s.b.Chambers {
		for j, w := range s.w {
			if w.Chamber == i && c.chamber[j] > u.smokeIn[i] {
				chambers = append(chambers, i)
			}
		}
	}
	for i, list := range c.stairs {
		for _, at := range list {
			if at > u.smokeOn[i] {
				stairs = append(stairs, i)
			}
		}
	}
	return slices.Compact(chambers), slices.Compact(stairs)
}

func (s scene) isSafe(u truth) bool {
	chambers, stairs := s.late(u, s.course(u))
	return len(chambers)+len(stairs) == 0
}

func between(g *rand.Rand, lo, hi int) int { return lo + g.Intn(hi-lo+1) }

// someSpan is one from lo to hi that is at most so wide.
func someSpan(g *rand.Rand, lo, hi, wide int) api.Span {
	n := between(g, lo, hi)
	return span(n, min(hi, n+between(g, 0, wide)))
}

func someOf[T any](g *rand.Rand, list []T) T { return list[g.Intn(len(list))] }

// scale is how large numbers of a scene are, and how wide its spans.
type scale struct{ stairs, chambers, walkers, gap, walk, way, wait, smoke, wide int }

// small are scenes of which all truths can be gone through.
func small() scale {
	return scale{stairs: 3, chambers: 2, walkers: 3, gap: 3, walk: 4, way: 500, wait: 4, smoke: 20, wide: 2}
}

func large() scale {
	return scale{stairs: api.MaxStairs, chambers: api.MaxChambers, walkers: api.MaxWalkers, gap: 8, walk: 40, way: 20000, wait: 60, smoke: 600, wide: 30}
}

func huge() scale {
	return scale{stairs: api.MaxStairs, chambers: api.MaxChambers, walkers: api.MaxWalkers, gap: api.MaxGap, walk: api.MaxWalk, way: api.MaxLength, wait: api.MaxWait, smoke: api.MaxTime, wide: 3000}
}

// walker is anybody in one of some chambers.
func (z scale) walker(g *rand.Rand, chambers int) api.Walker {
	w := api.Walker{Chamber: g.Intn(chambers), Pace: someSpan(g, api.MinPace, 250, z.wide), Wait: someSpan(g, 0, z.wait, z.wide)}
	if g.Intn(3) == 0 {
		w.Pace = someSpan(g, api.MinPace, api.MaxPace, z.wide)
	}
	return w
}

// next is any later stair, or Outside.
func next(g *rand.Rand, stair, stairs int) int {
	if n := between(g, stair, stairs-1); n > stair {
		return n
	}
	return api.Outside
}

// some is any valid scene of a scale.
func (z scale) some(g *rand.Rand) scene {
	var s scene
	stairs := between(g, 1, z.stairs)
	for i := range stairs {
		s.b.Stairs = append(s.b.Stairs, api.Stair{Next: next(g, i, stairs), Gap: between(g, 0, z.gap), Walk: someSpan(g, 0, z.walk, z.wide), Smoke: someSpan(g, 0, z.smoke, z.wide)})
	}
	for range between(g, 1, z.chambers) {
		s.b.Chambers = append(s.b.Chambers, api.Chamber{Stair: g.Intn(stairs), Way: between(g, 0, z.way), Smoke: someSpan(g, 0, z.smoke, z.wide)})
	}
	for range between(g, 0, z.walkers) {
		w := z.walker(g, len(s.b.Chambers))
		if len(s.w) > 0 && g.Intn(3) == 0 {
			w = someOf(g, s.w)
		}
		s.w = append(s.w, w)
	}
	return s
}

// poised is such a scene in which smoke comes in many places just when the last one leaves, or a second before or after that.
func (z scale) poised(g *rand.Rand) scene {
	s := z.some(g)
	soonest, latest := s.course(s.best()), s.course(s.worst())
	free := g.Intn(3) == 0
	smoke := func(first, last []int) api.Span {
		if len(first) == 0 || free || g.Intn(6) == 0 {
			return only(api.MaxTime)
		}
		lo := max(0, slices.Max(last)+between(g, -1, 2))
		if g.Intn(8) == 0 {
			return span(max(0, slices.Max(first)-3), max(0, slices.Max(first)+between(g, -1, 1)))
		}
		return span(lo, lo+between(g, 0, 1))
	}
	for i := range s.b.Stairs {
		s.b.Stairs[i].Smoke = smoke(soonest.stairs[i], latest.stairs[i])
	}
	for i := range s.b.Chambers {
		s.b.Chambers[i].Smoke = smoke(s.of(i, soonest), s.of(i, latest))
	}
	return s
}

// of are the times at which the walkers of a chamber leave it.
func (s scene) of(chamber int, c course) []int {
	var list []int
	for i, w := range s.w {
		if w.Chamber == chamber {
			list = append(list, c.chamber[i])
		}
	}
	return list
}
