package furnace

import "cottonpad/api"

func within(n, lo, hi int) bool { return lo <= n && n <= hi }

func isSpan(s api.Span, lo, hi int) bool {
	return lo <= s.Lo && s.Lo <= s.Hi && s.Hi <= hi
}

func isCurve(curve []api.Point) bool {
	if !within(len(curve), 2, api.MaxPoints) || curve[0].Minute != 0 {
		return false
	}
	for i, p := range curve {
		if !within(p.Minute, 0, api.MaxMinute) || !within(p.Degree, 0, api.MaxDegree) {
			return false
		}
		if i > 0 && (p.Minute <= curve[i-1].Minute || p.Degree < curve[i-1].Degree) {
			return false
		}
	}
	return true
}

func isRun(r api.Run) bool {
	return within(r.Id, 0, api.MaxId) &&
		isCurve(r.Curve) &&
		isSpan(r.Gauge, -api.MaxGauge, api.MaxGauge) &&
		areCouples(r.Couples) &&
		within(len(r.Rows), 1, min(api.MaxRows, lastMinute(r.Curve))) &&
		areRows(r.Rows, len(r.Couples))
}

func areCouples(couples []api.Couple) bool {
	if !within(len(couples), 1, api.MaxCouples) {
		return false
	}
	for i, c := range couples {
		if !isCouple(c) || i > 0 && c.Id <= couples[i-1].Id {
			return false
		}
	}
	return true
}

func isCouple(c api.Couple) bool {
	return within(c.Id, 0, api.MaxId) &&
		isSpan(c.Error, -api.MaxError, api.MaxError) &&
		isSpan(c.Lag, 0, api.MaxLate) &&
		within(c.Breaks, 0, api.MaxMinute)
}

func areRows(rows []api.Row, couples int) bool {
	right := 0
rows:
	for _, row := range rows {
		if len(row.Degrees) != couples || !within(row.Press, -api.MaxPress, api.MaxPress) {
			break rows
		}
		for _, degree := range row.Degrees {
			if !within(degree, 0, api.MaxDegree) {
				break rows
			}
		}
		right++
	}
	return right == len(rows)
}

func areRules(u api.Rules) bool {
	return areSteps(u.Steps) &&
		within(u.Single, 0, api.MaxDegree) &&
		within(u.SingleFrom, 1, api.MaxMinute) &&
		isSpan(u.Press, -api.MaxPress, api.MaxPress) &&
		within(u.PressFrom, 1, api.MaxMinute)
}

func areSteps(steps []api.Step) bool {
	if len(steps) > api.MaxSteps {
		return false
	}
	for i, s := range steps {
		if !within(s.From, 1, api.MaxMinute) || !within(s.Part, 0, api.Whole) {
			return false
		}
		if i > 0 && s.From <= steps[i-1].From {
			return false
		}
	}
	return true
}
