package origin

import "cottonpad/api"

// time is how many minutes fire takes from the room in which it began to another one.
type time struct {
	minutes int
	isNever bool
}

// never is the time to a room to which no way leads.
var never = time{isNever: true}

// and returns how long both take, one after the other.
func (t time) and(next time) time {
	if t == never || next == never {
		return never
	}
	return time{minutes: t.minutes + next.minutes}
}

func (t time) isBefore(other time) bool {
	return t != never && (other == never || t.minutes < other.minutes)
}

// The spans of all minutes, and of none.
var (
	always  = api.Span{Lo: 0, Hi: api.MaxMinute}
	nothing = api.Span{Lo: 1, Hi: 0}
)

// in returns in which minutes a fire began that comes after this time, in one of some minutes.
func (t time) in(minutes api.Span) api.Span {
	if t == never {
		return nothing
	}
	return api.Span{Lo: minutes.Lo - t.minutes, Hi: minutes.Hi - t.minutes}
}

// until returns in which minutes a fire began that comes after this time, in a minute or before it.
func (t time) until(minute int) api.Span {
	if t == never {
		return nothing
	}
	return api.Span{Lo: 0, Hi: minute - t.minutes}
}

// after returns in which minutes a fire began that comes after this time, but later than in a minute, or never.
func (t time) after(minute int) api.Span {
	if t == never {
		return always
	}
	return api.Span{Lo: minute + 1 - t.minutes, Hi: api.MaxMinute}
}

// kind is a kind of marks: what it uses, and in which minutes the fire began if a mark is so, by the times that it takes to both rooms of it.
type kind struct {
	at, long, other bool
	says            func(m api.Mark, end int, room, other time) api.Span
}

// kinds returns all kinds of marks, by their numbers.
func kinds() [api.MarkBefore + 1]kind {
	return [api.MarkBefore + 1]kind{
		api.MarkClock: {at: true, says: func(m api.Mark, end int, room, other time) api.Span {
			return room.in(m.At)
		}},
		api.MarkClear: {at: true, says: func(m api.Mark, end int, room, other time) api.Span {
			return room.after(m.At.Lo)
		}},
		api.MarkBurns: {at: true, says: func(m api.Mark, end int, room, other time) api.Span {
			return room.until(m.At.Hi)
		}},
		api.MarkMelt: {long: true, says: func(m api.Mark, end int, room, other time) api.Span {
			return room.until(end - m.Long)
		}},
		api.MarkWhole: {long: true, says: func(m api.Mark, end int, room, other time) api.Span {
			return room.after(end - m.Long)
		}},
		api.MarkBefore: {other: true, says: func(m api.Mark, end int, room, other time) api.Span {
			if room.isBefore(other) {
				return always
			}
			return nothing
		}},
	}
}
