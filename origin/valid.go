package origin

import "cottonpad/api"

func within(s api.Span, n int) bool { return s.Lo <= n && n <= s.Hi }

// upTo are all numbers from 0 to one.
func upTo(greatest int) api.Span { return api.Span{Lo: 0, Hi: greatest} }

// isSpan returns whether a span is one of numbers from 0 to one.
func isSpan(s api.Span, greatest int) bool {
	return within(upTo(greatest), s.Lo) && within(upTo(greatest), s.Hi) && s.Lo <= s.Hi
}

func isScene(s api.Scene) bool {
	rooms := api.Span{Lo: 1, Hi: api.MaxScene}
	return within(rooms, s.Rooms) && within(upTo(api.MaxMinute), s.End) && areGates(s) && areMarks(s)
}

func isRoom(s api.Scene, n int) bool { return within(upTo(s.Rooms-1), n) }

func areGates(s api.Scene) bool {
	if len(s.Gates) > api.MaxGates {
		return false
	}
	for _, g := range s.Gates {
		if !isRoom(s, g.A) || !isRoom(s, g.B) || g.A == g.B {
			return false
		}
		if !isSpan(g.Delay, api.MaxGoes) || g.Delay.Hi-g.Delay.Lo > api.MaxSpread {
			return false
		}
	}
	return true
}

// areMarks returns whether the marks of a scene are valid, in increasing order of their Ids.
func areMarks(s api.Scene) bool {
	if len(s.Marks) > api.MaxMarks {
		return false
	}
	least := 0
	for _, m := range s.Marks {
		if !within(api.Span{Lo: least, Hi: api.MaxId}, m.Id) || !isRoom(s, m.Room) || !hasWhatItUses(s, m) {
			return false
		}
		least = m.Id + 1
	}
	return true
}

// hasWhatItUses returns whether a mark is of a kind that there is, with all that it uses, and nothing else.
func hasWhatItUses(s api.Scene, m api.Mark) bool {
	if m.Kind < api.MarkClock || m.Kind > api.MarkBefore {
		return false
	}
	uses := kinds()[m.Kind]
	if uses.other && (!isRoom(s, m.Other) || m.Other == m.Room) || !uses.other && m.Other != 0 {
		return false
	}
	if uses.at && !isSpan(m.At, api.MaxMinute) || !uses.at && m.At != (api.Span{}) {
		return false
	}
	return uses.long && within(upTo(api.MaxMinute), m.Long) || !uses.long && m.Long == 0
}
