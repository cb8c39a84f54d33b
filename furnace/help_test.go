package furnace_test

import (
	"math/rand"
	"slices"

	"cottonpad/api"
)

func span(lo, hi int) api.Span { return api.Span{Lo: lo, Hi: hi} }

func row(press int, degrees ...int) api.Row { return api.Row{Degrees: degrees, Press: press} }

func breach(minute int, kind uint8, couple int, known uint8) api.Breach {
	return api.Breach{Minute: minute, Kind: kind, Couple: couple, Known: known}
}

// exampleRun is the run of the chapter's examples.
func exampleRun() api.Run {
	return api.Run{
		Id:    1,
		Curve: []api.Point{{Minute: 0, Degree: 20}, {Minute: 5, Degree: 520}, {Minute: 10, Degree: 680}},
		Couples: []api.Couple{
			{Id: 1, Error: span(-5, 5)},
			{Id: 4, Lag: span(0, 1), Breaks: 3},
		},
		Rows:  []api.Row{row(10, 120, 130), row(10, 220, 210), row(25, 330, 400)},
		Gauge: span(-2, 2),
	}
}

// exampleRules are the rules of the chapter's examples.
func exampleRules() api.Rules {
	return api.Rules{
		Steps:  []api.Step{{From: 2, Part: 100}},
		Single: 60, SingleFrom: 1,
		Press: span(0, 20), PressFrom: 3,
	}
}

// loose are rules that no run of these tests can leave but by being blind.
func loose() api.Rules {
	return api.Rules{Single: 2000, SingleFrom: 1, Press: span(-100, 100), PressFrom: 1}
}

// oneCouple is a run of a couple that is exact, on a curve that is 100 times the minute.
func oneCouple(degrees ...int) api.Run {
	r := api.Run{Curve: []api.Point{{}, {Minute: 20, Degree: 2000}}, Couples: []api.Couple{{Id: 7}}}
	for _, d := range degrees {
		r.Rows = append(r.Rows, row(0, d))
	}
	return r
}

func copyRun(r api.Run) api.Run {
	r.Curve = slices.Clone(r.Curve)
	r.Couples = slices.Clone(r.Couples)
	r.Rows = slices.Clone(r.Rows)
	for i := range r.Rows {
		r.Rows[i].Degrees = slices.Clone(r.Rows[i].Degrees)
	}
	return r
}

func copyRules(u api.Rules) api.Rules {
	u.Steps = slices.Clone(u.Steps)
	return u
}

func between(g *rand.Rand, lo, hi int) int { return lo + g.Intn(hi-lo+1) }

func someSpan(g *rand.Rand, lo, hi int) api.Span {
	a, b := between(g, lo, hi), between(g, lo, hi)
	return span(min(a, b), max(a, b))
}

// someRun is a valid run whose couples follow the curve more or less.
func someRun(g *rand.Rand) api.Run {
	rise := between(g, 0, 60)
	r := api.Run{Id: g.Intn(100), Gauge: someSpan(g, -3, 3)}
	r.Curve = []api.Point{{Minute: 0, Degree: g.Intn(40)}, {Minute: between(g, 1, 4), Degree: 40 + rise}, {Minute: 14, Degree: 40 + 3*rise}}
	id := g.Intn(3)
	for range between(g, 1, 4) {
		c := api.Couple{Id: id, Error: someSpan(g, -6, 6), Lag: someSpan(g, 0, 3)}
		if g.Intn(3) == 0 {
			c.Breaks = between(g, 1, 12)
		}
		r.Couples = append(r.Couples, c)
		id += between(g, 1, 3)
	}
	for i := range between(g, 1, 10) {
		line := api.Row{Press: between(g, -8, 8)}
		for range r.Couples {
			line.Degrees = append(line.Degrees, max(0, 30+(i+1)*rise/5+between(g, -10, 10)))
		}
		r.Rows = append(r.Rows, line)
	}
	return r
}

// someRules are valid rules that someRun may keep or not.
func someRules(g *rand.Rand) api.Rules {
	u := api.Rules{Single: between(g, 0, 30), SingleFrom: between(g, 1, 4), Press: someSpan(g, -9, 9), PressFrom: between(g, 1, 4)}
	from := 0
	for range g.Intn(4) {
		from += between(g, 1, 3)
		u.Steps = append(u.Steps, api.Step{From: from, Part: between(g, 0, 300)})
	}
	return u
}
