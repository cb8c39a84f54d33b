// Package furnace is layer 1: a curve that a furnace has to follow, what its thermocouples tell whatever their errors are, and which limits it left in which minute.
package furnace

import "cottonpad/api"

// At returns the curve at a minute (P1.1).
func At(curve []api.Point, minute int) (int, api.Errno) {
	if !isCurve(curve) {
		return 0, api.ErrCurve
	}
	if !within(minute, 0, lastMinute(curve)) {
		return 0, api.ErrArg
	}
	return degreeAt(curve, minute), api.OK
}

// Check returns the error of a run and rules (P1.1).
func Check(r api.Run, u api.Rules) api.Errno {
	if !isRun(r) {
		return api.ErrRun
	}
	if !areRules(u) {
		return api.ErrRules
	}
	return api.OK
}

// Mean returns MeanParts times the mean of a minute, as a span (P1.2).
func Mean(r api.Run, minute int) (api.Span, api.Errno) {
	if !isRun(r) {
		return api.Span{}, api.ErrRun
	}
	if !within(minute, 1, len(r.Rows)) {
		return api.Span{}, api.ErrArg
	}
	w := atWork(r)
	if w.blind(minute) {
		return api.Span{}, api.ErrArg
	}
	return w.means[minute], api.OK
}

// Left returns all limits that may be broken, in order (P1.3).
func Left(r api.Run, u api.Rules) ([]api.Breach, api.Errno) {
	if e := Check(r, u); e != api.OK {
		return nil, e
	}
	w := atWork(r)
	return w.breaches(u), api.OK
}

// Kept returns whether a furnace kept its limits until a minute, and the minute that tells otherwise (P1.4).
func Kept(r api.Run, u api.Rules, until int) (known uint8, minute int, e api.Errno) {
	list, e := Left(r, u)
	if e != api.OK {
		return 0, 0, e
	}
	if !within(until, 0, len(r.Rows)) {
		return 0, 0, api.ErrArg
	}
	if b := firstBreach(list, until, api.KnownYes); b != noBreach() {
		return api.KnownNo, b.Minute, api.OK
	}
	if b := firstBreach(list, until, api.KnownOpen); b != noBreach() {
		return api.KnownOpen, b.Minute, api.OK
	}
	return api.KnownYes, 0, api.OK
}

// Counts returns the last minute until which a furnace kept its limits for sure (P1.5).
func Counts(r api.Run, u api.Rules) (int, api.Errno) {
	list, e := Left(r, u)
	if e != api.OK {
		return 0, e
	}
	if b := firstBreach(list, len(r.Rows), api.KnownOpen); b != noBreach() {
		return b.Minute - 1, api.OK
	}
	return len(r.Rows), api.OK
}
