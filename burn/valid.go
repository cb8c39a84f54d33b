package burn

import "cottonpad/api"

// within returns whether all of some numbers are in a span.
func within(s api.Span, numbers ...int) bool {
	for _, n := range numbers {
		if n < s.Lo || n > s.Hi {
			return false
		}
	}
	return true
}

// upTo are all numbers from 0 to one.
func upTo(greatest int) api.Span { return api.Span{Lo: 0, Hi: greatest} }

// isSpan returns whether a span is one of numbers from 0 to one.
func isSpan(s api.Span, greatest int) bool {
	return within(upTo(greatest), s.Lo, s.Hi) && s.Lo <= s.Hi
}

func isHood(h api.Hood) bool {
	return isSpan(h.Base, api.MaxOxygen) &&
		isSpan(h.Flow, api.MaxDraft) &&
		isSpan(h.Joule, api.MaxJoule) &&
		isSpan(h.Lag, api.MaxDelay) &&
		within(upTo(api.MaxDrift), h.Drift)
}

// areReads returns whether a list is one of readings, or lights, of at most a number each.
func areReads(list []int, greatest int) bool {
	return len(list) <= api.MaxReads && within(upTo(greatest), list...)
}

func isLamp(l api.Lamp) bool {
	return within(api.Span{Lo: 1, Hi: api.MaxLight}, l.Before) && within(api.Span{Lo: 1, Hi: l.Before}, l.After)
}

// checkLamp returns the error of a lamp and lights.
func checkLamp(l api.Lamp, lights []int) api.Errno {
	if !isLamp(l) {
		return api.ErrLamp
	}
	if !areReads(lights, l.Before) {
		return api.ErrReads
	}
	return api.OK
}

// isSecond returns whether a second is one of so many.
func isSecond(second, count int) bool { return within(upTo(count-1), second) }

// areSeconds returns whether there are, among so many seconds, those from one to another one less 1.
func areSeconds(from, to, count int) bool { return within(upTo(count), from, to) && from <= to }
