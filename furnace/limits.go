package furnace

import (
	"cmp"
	"slices"

	"cottonpad/api"
)

// noCouple is the couple of a breach that is of the whole furnace.
const noCouple = -1

// limit is one of the limits of a furnace. Its function tells whether it is broken in a minute, by a couple (by its index) if it is a limit of each one.
type limit struct {
	kind   uint8
	each   bool
	broken func(minute, couple int) uint8
}

func (w *work) limits(u api.Rules) []limit {
	return []limit{
		{kind: api.BreachBlind, broken: func(minute, _ int) uint8 { return w.isBlind(minute) }},
		{kind: api.BreachArea, broken: func(minute, _ int) uint8 { return w.leavesArea(u, minute) }},
		{kind: api.BreachSingle, each: true, broken: func(minute, couple int) uint8 { return w.leavesSingle(u, minute, couple) }},
		{kind: api.BreachPress, broken: func(minute, _ int) uint8 { return w.leavesPress(u, minute) }},
	}
}

func (w *work) isBlind(minute int) uint8 {
	if w.blind(minute) {
		return api.KnownYes
	}
	return api.KnownNo
}

func (w *work) leavesArea(u api.Rules, minute int) uint8 {
	part := -1
	for _, s := range u.Steps {
		if s.From <= minute {
			part = s.Part
		}
	}
	if part < 0 {
		return api.KnownNo
	}
	means, curve := sum(w.means[:minute+1]...), sum(w.curves[:minute+1]...)
	// In thousandths, so that nothing is rounded.
	area := api.Span{Lo: api.Whole * means.Lo, Hi: api.Whole * means.Hi}
	return outside(area, api.Span{Lo: (api.Whole - part) * curve.Lo, Hi: (api.Whole + part) * curve.Hi})
}

func (w *work) leavesSingle(u api.Rules, minute, couple int) uint8 {
	if minute < u.SingleFrom {
		return api.KnownNo
	}
	degree := degreeAt(w.Curve, minute)
	return outside(w.temperature(minute, couple), api.Span{Lo: degree - u.Single, Hi: degree + u.Single})
}

func (w *work) leavesPress(u api.Rules, minute int) uint8 {
	if minute < u.PressFrom {
		return api.KnownNo
	}
	return outside(w.pressure(minute), u.Press)
}

// outside returns whether what is true, any number of a span, is not in the span that is allowed.
func outside(truth, allowed api.Span) uint8 {
	if truth.Hi < allowed.Lo || truth.Lo > allowed.Hi {
		return api.KnownYes
	}
	if truth.Lo < allowed.Lo || truth.Hi > allowed.Hi {
		return api.KnownOpen
	}
	return api.KnownNo
}

func (w *work) breaches(u api.Rules) []api.Breach {
	var list []api.Breach
	for _, l := range w.limits(u) {
		for minute := range w.minutes() {
			list = append(list, w.broken(l, minute)...)
		}
	}
	order(list,
		func(b api.Breach) int { return b.Minute },
		func(b api.Breach) int { return int(b.Kind) },
		func(b api.Breach) int { return b.Couple })
	return list
}

// broken returns the breaches of one limit in a minute.
func (w *work) broken(l limit, minute int) []api.Breach {
	var list []api.Breach
	add := func(known uint8, id int) {
		if known != api.KnownNo {
			list = append(list, api.Breach{Minute: minute, Kind: l.kind, Couple: id, Known: known})
		}
	}
	if !l.each {
		add(l.broken(minute, noCouple), noCouple)
		return list
	}
	working := w.working(minute)
	for i := range len(w.Couples) {
		if working[i] {
			add(l.broken(minute, i), w.Couples[i].Id)
		}
	}
	return list
}

// order puts a list in order by some numbers of its things, the first number first.
func order[T any](list []T, numbers ...func(T) int) {
	slices.SortStableFunc(list, func(a, b T) int {
		for _, number := range numbers {
			if c := cmp.Compare(number(a), number(b)); c != 0 {
				return c
			}
		}
		return 0
	})
}

// noBreach stands for none: each breach has a minute above 0.
func noBreach() api.Breach { return api.Breach{} }

// firstBreach returns the first breach until a minute that is at least as well known.
func firstBreach(list []api.Breach, until int, known uint8) api.Breach {
	for _, b := range list {
		if b.Minute <= until && b.Known >= known {
			return b
		}
	}
	return noBreach()
}
