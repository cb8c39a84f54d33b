package furnace_test

import (
	"math"
	"math/rand"
	"reflect"
	"slices"
	"testing"

	"cottonpad/api"
	"cottonpad/furnace"
)

// answers is all that the functions of the package return of the same arguments.
type answers struct {
	at, counts, minute int
	mean               api.Span
	left               []api.Breach
	known              uint8
	errors             [6]api.Errno
}

func ask(r api.Run, u api.Rules, minute int) answers {
	var a answers
	a.at, a.errors[0] = furnace.At(r.Curve, minute)
	a.errors[1] = furnace.Check(r, u)
	a.mean, a.errors[2] = furnace.Mean(r, minute)
	a.left, a.errors[3] = furnace.Left(r, u)
	a.known, a.minute, a.errors[4] = furnace.Kept(r, u, minute)
	a.counts, a.errors[5] = furnace.Counts(r, u)
	return a
}

// R2: beside an error all else is zero.
func (a answers) zeroBesideErrors() bool {
	return (a.errors[0] == api.OK || a.at == 0) &&
		(a.errors[2] == api.OK || a.mean == api.Span{}) &&
		(a.errors[3] == api.OK || len(a.left) == 0) &&
		(a.errors[4] == api.OK || a.known == 0 && a.minute == 0) &&
		(a.errors[5] == api.OK || a.counts == 0)
}

// spare puts a list into memory that goes on behind it, with marks that must stay.
func spare[T any](list []T, mark T) []T {
	return append(slices.Clone(list), mark, mark)[:len(list)]
}

func spared(r api.Run, u api.Rules) (api.Run, api.Rules) {
	r, u = copyRun(r), copyRules(u)
	r.Curve = spare(r.Curve, api.Point{Minute: 77, Degree: 77})
	r.Couples = spare(r.Couples, api.Couple{Id: 77})
	for i := range r.Rows {
		r.Rows[i].Degrees = spare(r.Rows[i].Degrees, 77)
	}
	r.Rows = spare(r.Rows, api.Row{Press: 77})
	u.Steps = spare(u.Steps, api.Step{From: 77})
	return r, u
}

// behind returns all memory of the arguments, to the capacity of each list.
func behind(r api.Run, u api.Rules) []any {
	list := []any{slices.Clone(r.Curve[:cap(r.Curve)]), slices.Clone(r.Couples[:cap(r.Couples)]), slices.Clone(u.Steps[:cap(u.Steps)])}
	for _, line := range r.Rows[:cap(r.Rows)] {
		list = append(list, line.Press, slices.Clone(line.Degrees[:cap(line.Degrees)]))
	}
	return append(list, r.Id, r.Gauge, u.Single, u.SingleFrom, u.Press, u.PressFrom)
}

// R3: no argument is written to, no result is kept, and no call remembers another one.
func TestMemory(t *testing.T) {
	g := rand.New(rand.NewSource(8))
	for range 300 {
		r, u := spared(someRun(g), someRules(g))
		before := behind(r, u)
		minute := between(g, 0, len(r.Rows))
		a := ask(r, u, minute)
		if !reflect.DeepEqual(before, behind(r, u)) {
			t.Fatal("an argument is written to")
		}
		kept := slices.Clone(a.left)
		for i := range a.left {
			a.left[i] = api.Breach{Minute: -9}
		}
		for i := range a.left[:cap(a.left)] {
			a.left[:cap(a.left)][i].Kind = 99
		}
		ask(someRun(g), someRules(g), 1)
		b := ask(r, u, minute)
		a.left = kept
		if len(a.left) == 0 {
			a.left, b.left = nil, nil
		}
		if !reflect.DeepEqual(a, b) || !reflect.DeepEqual(before, behind(r, u)) {
			t.Fatal(a, b)
		}
	}
}

// R4: an empty list is a nil one.
func TestNilAndEmpty(t *testing.T) {
	u := exampleRules()
	u.Steps = nil
	a := ask(exampleRun(), u, 2)
	u.Steps = []api.Step{}
	if b := ask(exampleRun(), u, 2); !reflect.DeepEqual(a, b) {
		t.Error(a, b)
	}
}

// R2, R5 and R7: any values at all.
func TestAnyValues(t *testing.T) {
	g := rand.New(rand.NewSource(9))
	numbers := []int{math.MinInt, math.MinInt + 1, -1, 0, 1, 2, 3, 60, 600, 601, 2000, 2001, math.MaxInt - 1, math.MaxInt}
	number := func() int { return numbers[g.Intn(len(numbers))] }
	anySpan := func() api.Span { return span(number(), number()) }
	for range 20000 {
		r, u := someRun(g), someRules(g)
		minute := number()
		for range between(g, 1, 3) {
			switch g.Intn(12) {
			case 0:
				r.Curve[g.Intn(len(r.Curve))] = api.Point{Minute: number(), Degree: number()}
			case 1:
				r.Couples[g.Intn(len(r.Couples))].Error = anySpan()
			case 2:
				r.Couples[g.Intn(len(r.Couples))].Lag = anySpan()
			case 3:
				r.Couples[g.Intn(len(r.Couples))].Breaks = number()
			case 4:
				r.Rows[g.Intn(len(r.Rows))] = row(number(), number(), number())
			case 5:
				r.Gauge = anySpan()
			case 6:
				u.Steps = append(u.Steps, api.Step{From: number(), Part: number()})
			case 7:
				u.Single, u.SingleFrom = number(), number()
			case 8:
				u.Press, u.PressFrom = anySpan(), number()
			case 9:
				r.Rows[g.Intn(len(r.Rows))].Degrees = nil
			case 10:
				r.Id, r.Couples[0].Id = number(), number()
			case 11:
				r.Curve = r.Curve[:g.Intn(len(r.Curve))]
				if len(r.Curve) == 0 {
					r.Curve = []api.Point{{}, {Minute: number(), Degree: number()}}
				}
			}
		}
		if a := ask(r, u, minute); !a.zeroBesideErrors() {
			t.Fatal(a)
		}
	}
	for _, r := range []api.Run{{}, {Curve: exampleRun().Curve}, {Couples: exampleRun().Couples}, {Rows: exampleRun().Rows}, {Couples: exampleRun().Couples, Rows: exampleRun().Rows}} {
		for _, minute := range numbers {
			if a := ask(r, api.Rules{}, minute); !a.zeroBesideErrors() || a.errors[1] != api.ErrRun {
				t.Error(a)
			}
		}
	}
}

// R5: the greatest sums that there can be.
func TestGreatest(t *testing.T) {
	r := api.Run{Id: api.MaxId, Curve: []api.Point{{Degree: api.MaxDegree}, {Minute: api.MaxMinute, Degree: api.MaxDegree}}, Gauge: span(-api.MaxGauge, api.MaxGauge)}
	for i := range api.MaxCouples {
		r.Couples = append(r.Couples, api.Couple{Id: i, Error: span(-api.MaxError, api.MaxError), Lag: span(0, api.MaxLate)})
	}
	for range api.MaxRows {
		r.Rows = append(r.Rows, row(api.MaxPress, slices.Repeat([]int{api.MaxDegree}, api.MaxCouples)...))
	}
	u := api.Rules{Steps: []api.Step{{From: 1, Part: api.Whole}}, Single: api.MaxError, SingleFrom: 1, Press: span(api.MaxPress-api.MaxGauge, api.MaxPress), PressFrom: 1}
	for i := range r.Rows {
		r.Rows[i].Press = api.MaxPress - api.MaxGauge
	}
	u.Press.Lo -= api.MaxGauge
	if l := left(t, r, u); len(l) != 0 {
		t.Error(l)
	}
	u.Single--
	if l := left(t, r, u); len(l) != api.MaxCouples*api.MaxRows {
		t.Error(len(l))
	}
	// The means are 2,050 at most: a fortieth more.
	u.Single, u.Steps[0].Part = api.MaxError, 25
	if l := left(t, r, u); len(l) != 0 {
		t.Error(l)
	}
	u.Steps[0].Part = 24
	if l := left(t, r, u); len(l) != api.MaxRows || l[59] != breach(60, api.BreachArea, -1, api.KnownOpen) {
		t.Error(l)
	}
}
