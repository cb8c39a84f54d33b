package exits

import "cottonpad/api"

// within returns whether all of some numbers are in a span.
func within(s api.Span, numbers ...int) bool {
	for _, n := range numbers {
		if n < s.Lo || n > s.Hi {
			return false
		}
	}
	return true
}

// upTo are all numbers from 0 to one.
func upTo(greatest int) api.Span { return api.Span{Lo: 0, Hi: greatest} }

// oneTo are all numbers from 1 to one.
func oneTo(greatest int) api.Span { return api.Span{Lo: 1, Hi: greatest} }

// isSpan returns whether a span is one of numbers that are in another one.
func isSpan(s, of api.Span) bool {
	return within(of, s.Lo, s.Hi) && s.Lo <= s.Hi
}

func isBuilding(b api.Building) bool {
	return areStairs(b.Stairs) && areChambers(b.Chambers, len(b.Stairs))
}

func areStairs(stairs []api.Stair) bool {
	if !within(oneTo(api.MaxStairs), len(stairs)) {
		return false
	}
	for i, s := range stairs {
		later := api.Span{Lo: i + 1, Hi: len(stairs) - 1}
		if s.Next != api.Outside && !within(later, s.Next) {
			return false
		}
		if !within(upTo(api.MaxGap), s.Gap) || !isSpan(s.Walk, upTo(api.MaxWalk)) || !isSpan(s.Smoke, upTo(api.MaxTime)) {
			return false
		}
	}
	return true
}

// areChambers returns whether chambers are valid in a building with so many stairs.
func areChambers(chambers []api.Chamber, stairs int) bool {
	if !within(oneTo(api.MaxChambers), len(chambers)) {
		return false
	}
	for _, c := range chambers {
		if !within(upTo(stairs-1), c.Stair) || !within(upTo(api.MaxLength), c.Way) || !isSpan(c.Smoke, upTo(api.MaxTime)) {
			return false
		}
	}
	return true
}

// arePeople returns whether walkers are people of a valid building.
func arePeople(walkers []api.Walker, b api.Building) bool {
	if len(walkers) > api.MaxWalkers {
		return false
	}
	paces := api.Span{Lo: api.MinPace, Hi: api.MaxPace}
	for _, w := range walkers {
		if !within(upTo(len(b.Chambers)-1), w.Chamber) || !isSpan(w.Pace, paces) || !isSpan(w.Wait, upTo(api.MaxWait)) {
			return false
		}
	}
	return true
}
