package burn

import (
	"iter"

	"cottonpad/api"
)

// duct is a hood at work, with readings, all of them valid.
type duct struct {
	api.Hood
	reads []int
}

// end is one of both ends of a truth: what is taken of a span, and the error that goes with it.
type end struct {
	of    func(s api.Span) int
	wrong func(drift int) int
}

// ends returns the end of the least heat, and that of the greatest one.
func ends() [2]end {
	return [2]end{
		{of: func(s api.Span) int { return s.Lo }, wrong: func(drift int) int { return drift }},
		{of: func(s api.Span) int { return s.Hi }, wrong: func(drift int) int { return -drift }},
	}
}

// seconds returns how many seconds of heat there are: with each lag a reading belongs to each one of them.
func (d duct) seconds() int { return max(0, len(d.reads)-d.Lag.Hi) }

// lags yields all lags that may be true.
func (d duct) lags() iter.Seq[int] {
	return func(yield func(int) bool) {
		for lag := d.Lag.Lo; lag <= d.Lag.Hi; lag++ {
			if !yield(lag) {
				return
			}
		}
	}
}

// missing tells what is missing of the oxygen in a second, with a lag, at an end of the truth.
func (d duct) missing(lag int, at end) func(second int) int {
	base := at.of(d.Base) - at.wrong(d.Drift)
	return func(second int) int { return max(0, base-d.reads[second+lag]) }
}

// heat tells the heat of a second with a lag.
func (d duct) heat(lag int) func(second int) api.Span {
	var heats [2]func(second int) int
	for i, at := range ends() {
		factor, missing := at.of(d.Joule)*at.of(d.Flow), d.missing(lag, at)
		heats[i] = func(second int) int { return factor * missing(second) }
	}
	return func(second int) api.Span { return api.Span{Lo: heats[0](second), Hi: heats[1](second)} }
}

// sum returns the heat of some seconds. All of them have one lag, so that their sums are taken lag by lag.
func (d duct) sum(from, to int) api.Span {
	return widest(d.lags(), func(lag int) api.Span { return total(from, to, d.heat(lag)) })
}

// arrival is in which seconds a level may be reached first with one lag, and whether it is reached for sure.
type arrival struct {
	first api.Span
	sure  bool
}

// reached returns the arrivals of all lags with which a level may be reached.
func (d duct) reached(level int) map[int]arrival {
	reached := map[int]arrival{}
	for lag := range d.lags() {
		if a := d.arrival(lag, level); a.first != none {
			reached[lag] = a
		}
	}
	return reached
}

// arrival returns that of a lag; its seconds are none if none reaches the level.
func (d duct) arrival(lag, level int) arrival {
	a, heat := arrival{first: none}, d.heat(lag)
seconds:
	for second := range d.seconds() {
		switch s := heat(second); {
		case s.Lo >= level:
			a.first, a.sure = join(a.first, only(second)), true
			// In each truth this second reaches it, so that no later one is the first.
			break seconds
		case s.Hi >= level:
			a.first = join(a.first, only(second))
		}
	}
	return a
}

// known returns whether a level is reached, by the arrivals of all lags with which it may be.
func (d duct) known(reached map[int]arrival) uint8 {
	if len(reached) == 0 {
		return api.KnownNo
	}
	for lag := range d.lags() {
		if !reached[lag].sure {
			return api.KnownOpen
		}
	}
	return api.KnownYes
}
