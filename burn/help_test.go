package burn_test

import (
	"math/rand"
	"slices"
	"testing"

	"cottonpad/api"
	"cottonpad/burn"
)

func span(lo, hi int) api.Span { return api.Span{Lo: lo, Hi: hi} }

// inside returns whether a span is a part of another one.
func inside(part, s api.Span) bool { return s.Lo <= part.Lo && part.Hi <= s.Hi }

func plus(a, b api.Span) api.Span { return span(a.Lo+b.Lo, a.Hi+b.Hi) }

// fire is a hood and its readings.
type fire struct {
	h api.Hood
	r []int
}

// glow is a lamp and its lights.
type glow struct {
	l api.Lamp
	r []int
}

// example is the hood of the chapter's examples, with its readings.
func example() fire {
	return fire{
		h: api.Hood{Base: span(209000, 209500), Flow: span(100, 110), Joule: span(17, 18), Lag: span(1, 2)},
		r: []int{209500, 209200, 208000, 207000, 209000},
	}
}

// exampleGlow is the lamp of the chapter's examples, with its lights.
func exampleGlow() glow {
	return glow{l: api.Lamp{Before: 1000, After: 800}, r: []int{900, 600, 850, 400}}
}

// with returns a copy with a change.
func (x fire) with(change func(x *fire)) fire {
	x.r = slices.Clone(x.r)
	change(&x)
	return x
}

func (x glow) with(change func(x *glow)) glow {
	x.r = slices.Clone(x.r)
	change(&x)
	return x
}

// seconds is how many seconds of heat there are.
func (x fire) seconds() int { return max(0, len(x.r)-x.h.Lag.Hi) }

func (x fire) heat(t *testing.T, second int) api.Span {
	t.Helper()
	s, e := burn.Heat(x.h, x.r, second)
	if e != api.OK {
		t.Fatal("Heat", second, e, x)
	}
	return s
}

func (x fire) sum(t *testing.T, from, to int) api.Span {
	t.Helper()
	s, e := burn.Sum(x.h, x.r, from, to)
	if e != api.OK {
		t.Fatal("Sum", from, to, e, x)
	}
	return s
}

func (x fire) first(t *testing.T, level int) (api.Span, uint8) {
	t.Helper()
	s, known, e := burn.First(x.h, x.r, level)
	if e != api.OK {
		t.Fatal("First", level, e, x)
	}
	return s, known
}

func (x glow) clean(t *testing.T, second int) api.Span {
	t.Helper()
	s, e := burn.Clean(x.l, x.r, second)
	if e != api.OK {
		t.Fatal("Clean", second, e, x)
	}
	return s
}

func (x glow) dark(t *testing.T, second int) api.Span {
	t.Helper()
	s, e := burn.Dark(x.l, x.r, second)
	if e != api.OK {
		t.Fatal("Dark", second, e, x)
	}
	return s
}

func (x glow) smoke(t *testing.T, from, to int) api.Span {
	t.Helper()
	s, e := burn.Smoke(x.l, x.r, from, to)
	if e != api.OK {
		t.Fatal("Smoke", from, to, e, x)
	}
	return s
}

func between(g *rand.Rand, lo, hi int) int { return lo + g.Intn(hi-lo+1) }

// someSpan is one from lo to hi that is at most so wide.
func someSpan(g *rand.Rand, lo, hi, wide int) api.Span {
	n := between(g, lo, hi)
	return span(n, min(hi, n+between(g, 0, wide)))
}

func someList(g *rand.Rand, count, lo, hi int) []int {
	var list []int
	for range count {
		list = append(list, between(g, lo, hi))
	}
	return list
}

// small is a fire of which all truths can be gone through.
func small(g *rand.Rand) fire {
	x := fire{h: api.Hood{
		Base: someSpan(g, 2, 8, 2), Flow: someSpan(g, 1, 3, 1), Joule: someSpan(g, 1, 3, 1), Lag: someSpan(g, 0, 3, 2), Drift: between(g, 0, 1),
	}}
	if g.Intn(5) == 0 {
		x.h.Flow.Lo = 0
	}
	x.r = someList(g, between(g, 0, 3)+x.h.Lag.Hi, 0, 6)
	if g.Intn(10) == 0 {
		x.r = x.r[:g.Intn(len(x.r)+1)]
	}
	return x
}

// some is any valid fire, most often one with some heat.
func some(g *rand.Rand) fire {
	x := fire{h: api.Hood{
		Base: someSpan(g, 208000, 210000, 600), Flow: someSpan(g, 0, 10000, 300), Joule: someSpan(g, 12000, 30000, 1000), Lag: someSpan(g, 0, 30, 5), Drift: between(g, 0, 300),
	}}
	if g.Intn(3) == 0 {
		x.h.Base, x.h.Drift = someSpan(g, 0, api.MaxOxygen, api.MaxOxygen), between(g, 0, api.MaxDrift)
	}
	x.r = someList(g, between(g, x.h.Lag.Hi, api.MaxReads), 205000, 211000)
	if g.Intn(3) == 0 {
		x.r = someList(g, len(x.r), 0, api.MaxOxygen)
	}
	if g.Intn(3) == 0 {
		slices.Sort(x.r)
		slices.Reverse(x.r)
	}
	return x
}

// someLamp is any valid lamp with lights that are at most so many.
func someLamp(g *rand.Rand, before, lights int) glow {
	x := glow{l: api.Lamp{Before: between(g, 1, before)}}
	x.l.After = between(g, 1, x.l.Before)
	x.r = someList(g, between(g, 0, lights), 0, x.l.Before)
	return x
}

// truth is one lag, and for each second of heat a number of each span and an error.
type truth struct {
	lag                     int
	base, flow, joule, errs []int
}

// someTruth is any truth of a fire.
func (x fire) someTruth(g *rand.Rand) truth {
	u := truth{lag: between(g, x.h.Lag.Lo, x.h.Lag.Hi)}
	for range x.seconds() {
		u.base = append(u.base, between(g, x.h.Base.Lo, x.h.Base.Hi))
		u.flow = append(u.flow, between(g, x.h.Flow.Lo, x.h.Flow.Hi))
		u.joule = append(u.joule, between(g, x.h.Joule.Lo, x.h.Joule.Hi))
		u.errs = append(u.errs, between(g, -x.h.Drift, x.h.Drift))
	}
	return u
}

// hotFrom is the truth of a lag that has as little heat as there may be before a second, and as much from then on.
func (x fire) hotFrom(lag, second int) truth {
	u := truth{lag: lag}
	for s := range x.seconds() {
		h, wrong := x.h, -x.h.Drift
		if s < second {
			h.Base.Hi, h.Flow.Hi, h.Joule.Hi, wrong = h.Base.Lo, h.Flow.Lo, h.Joule.Lo, x.h.Drift
		}
		u.base, u.flow, u.joule, u.errs = append(u.base, h.Base.Hi), append(u.flow, h.Flow.Hi), append(u.joule, h.Joule.Hi), append(u.errs, wrong)
	}
	return u
}

// heats are those of all seconds in a truth.
func (x fire) heats(u truth) []int {
	var list []int
	for s := range x.seconds() {
		missing := u.base[s] - x.r[s+u.lag] - u.errs[s]
		if missing < 0 {
			missing = 0
		}
		list = append(list, u.joule[s]*u.flow[s]*missing)
	}
	return list
}

// firstOf is the first second of some heats that reaches a level, -1 if none does.
func firstOf(heats []int, level int) int {
	return slices.IndexFunc(heats, func(heat int) bool { return heat >= level })
}

func sumOf(list []int) int {
	sum := 0
	for _, n := range list {
		sum += n
	}
	return sum
}

// ends are the least and the greatest of some numbers that are seen one by one.
type ends struct {
	s    api.Span
	seen bool
}

func (e *ends) see(n int) {
	if !e.seen {
		e.s, e.seen = span(n, n), true
	}
	e.s = span(min(e.s.Lo, n), max(e.s.Hi, n))
}
