package class

import "cottonpad/api"

func within(n, lo, hi int) bool { return lo <= n && n <= hi }

func isSpan(s api.Span, lo, hi int) bool {
	return lo <= s.Lo && s.Lo <= s.Hi && s.Hi <= hi
}

func isCriterion(n uint8) bool { return within(int(n), 1, api.Criteria) }

func isLetter(n uint8) bool { return within(int(n), api.LetterR, api.LetterI) }

// isTest returns whether a test is valid, if its run and its rules are.
func isTest(t api.Test) bool {
	return within(t.Id, 0, api.MaxId) &&
		isSpan(t.Clock, -api.MaxClock, api.MaxClock) &&
		within(t.End, 1, secondsOf(len(t.Run.Rows))) &&
		areLimits(t.Limits) &&
		areNotes(t.Notes, t.End)
}

func areLimits(limits [api.Criteria]int) bool {
	for _, limit := range limits {
		if !within(limit, 0, api.MaxValue) {
			return false
		}
	}
	return true
}

func areNotes(notes []api.Note, end int) bool {
	if len(notes) > api.MaxNotes {
		return false
	}
	for i, n := range notes {
		if !isNote(n, end) || i > 0 && n.At < notes[i-1].At {
			return false
		}
	}
	return true
}

func isNote(n api.Note, end int) bool {
	return within(n.At, 0, end) &&
		isCriterion(n.Kind) &&
		within(n.Value, 0, api.MaxValue) &&
		isSpan(n.Off, -api.MaxOff, api.MaxOff)
}
