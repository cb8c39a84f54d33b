package class

import (
	"cottonpad/api"
	"cottonpad/furnace"
)

// noClass stands for none.
const noClass = 0

// classes returns all classes, in minutes.
func classes() []int { return []int{5, 10, 15, 20, 30, 45, 60} }

func secondsOf(minutes int) int { return 60 * minutes }

// last returns the last thing of a list of which something is so, zero if there is none.
func last[T any](list []T, so func(T) bool) T {
	var found T
	for _, thing := range list {
		if so(thing) {
			found = thing
		}
	}
	return found
}

// classAbove returns the next class, or noClass.
func classAbove(class int) int {
	for _, next := range classes() {
		if next > class {
			return next
		}
	}
	return noClass
}

// class returns the greatest class for a letter that a test has whatever is true, and the greatest one that it may have. One of the truths is the best for all that it needs: that in which the clock is the least fast, and all fails as late as it may.
func (w *work) class(letter uint8) api.Span {
	failure, end, kept := w.failureOf(letter), w.end(), w.kept()
	sure := func(class int) bool {
		second := secondsOf(class)
		return !failure.mayCome(second) && end.Lo >= second && kept.Lo >= class
	}
	open := func(class int) bool {
		second := secondsOf(class)
		return !failure.mustCome(second) && end.Hi >= second && kept.Hi >= class
	}
	return api.Span{Lo: last(classes(), sure), Hi: last(classes(), open)}
}

// end returns the true second of the end.
func (w *work) end() api.Span { return w.truly(api.Span{Lo: w.End, Hi: w.End}) }

// kept returns until which minute the furnace kept its limits: the least and the greatest one. No limit is known to be kept after the last row.
func (w *work) kept() api.Span {
	rows := len(w.Run.Rows)
	sure, _ := furnace.Counts(w.Run, w.Rules)
	known, minute, _ := furnace.Kept(w.Run, w.Rules, rows)
	if known == api.KnownNo {
		return api.Span{Lo: sure, Hi: minute - 1}
	}
	return api.Span{Lo: sure, Hi: rows}
}

// stops returns what may keep a test from a class.
func (w *work) stops(letter uint8, class int) []uint8 {
	var list []uint8
	second := secondsOf(class)
	for _, criterion := range criteriaOf(letter) {
		if w.failure(criterion).mayCome(second) {
			list = append(list, criterion)
		}
	}
	if w.end().Lo < second {
		list = append(list, api.StopEnd)
	}
	if w.kept().Lo < class {
		list = append(list, api.StopFurnace)
	}
	return list
}
