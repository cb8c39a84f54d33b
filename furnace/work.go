package furnace

import (
	"iter"

	"cottonpad/api"
)

// work is a valid run at work. Both arrays are by minutes, in MeanParts, and zero where no couple works: such a minute adds nothing to their sums.
type work struct {
	api.Run
	means  [api.MaxRows + 1]api.Span
	curves [api.MaxRows + 1]api.Span
}

func atWork(r api.Run) work {
	w := work{Run: r}
	for minute := range w.minutes() {
		if !w.blind(minute) {
			degree := api.MeanParts * degreeAt(r.Curve, minute)
			w.means[minute] = w.mean(minute)
			w.curves[minute] = api.Span{Lo: degree, Hi: degree}
		}
	}
	return w
}

func (w *work) minutes() iter.Seq[int] {
	return func(yield func(int) bool) {
		for i := range len(w.Rows) {
			if !yield(i + 1) {
				return
			}
		}
	}
}

// working returns the indices of the couples that work in a minute.
func (w *work) working(minute int) map[int]bool {
	set := map[int]bool{}
	for i := range len(w.Couples) {
		set[i] = true
	}
	for i := range len(w.Couples) {
		if breaks := w.Couples[i].Breaks; breaks > 0 && minute >= breaks {
			delete(set, i)
		}
	}
	return set
}

func (w *work) blind(minute int) bool { return len(w.working(minute)) == 0 }

// mean returns MeanParts times the mean of a minute in which some couple works. It is whole, since MeanParts is a multiple of each number of couples.
func (w *work) mean(minute int) api.Span {
	working := w.working(minute)
	var all []api.Span
	for i := range len(w.Couples) {
		if working[i] {
			all = append(all, w.temperature(minute, i))
		}
	}
	total, parts := sum(all...), api.MeanParts/len(all)
	return api.Span{Lo: total.Lo * parts, Hi: total.Hi * parts}
}

// temperature returns the true temperature of a couple (by its index) in a minute in which it works.
func (w *work) temperature(minute, couple int) api.Span {
	c := w.Couples[couple]
	last := len(w.Rows)
	if c.Breaks > 0 {
		last = min(last, c.Breaks-1)
	}
	later := func(lag int) int { return w.Rows[min(minute+lag, last)-1].Degrees[couple] }
	least, greatest := later(c.Lag.Lo), later(c.Lag.Lo)
	for lag := c.Lag.Lo; lag <= c.Lag.Hi; lag++ {
		least, greatest = min(least, later(lag)), max(greatest, later(lag))
	}
	return lessError(api.Span{Lo: least, Hi: greatest}, c.Error)
}

// pressure returns the true pressure in a minute.
func (w *work) pressure(minute int) api.Span {
	press := w.Rows[minute-1].Press
	return lessError(api.Span{Lo: press, Hi: press}, w.Gauge)
}

// lessError returns what may be true of something that is read by an instrument that errs.
func lessError(read, err api.Span) api.Span {
	return sum(read, api.Span{Lo: -err.Hi, Hi: -err.Lo})
}

func sum(spans ...api.Span) api.Span {
	total := api.Span{}
	for _, s := range spans {
		total.Lo += s.Lo
		total.Hi += s.Hi
	}
	return total
}

func lastMinute(curve []api.Point) int { return curve[len(curve)-1].Minute }

// degreeAt returns a curve at one of its minutes.
func degreeAt(curve []api.Point, minute int) int {
	i := len(curve) - 2
	for curve[i].Minute > minute {
		i--
	}
	a, b := curve[i], curve[i+1]
	return a.Degree + (b.Degree-a.Degree)*(minute-a.Minute)/(b.Minute-a.Minute)
}
