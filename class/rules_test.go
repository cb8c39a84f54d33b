package class_test

import (
	"math"
	"math/rand"
	"reflect"
	"slices"
	"testing"

	"cottonpad/api"
	"cottonpad/class"
)

// answers is all that the functions of the package return of the same arguments.
type answers struct {
	fails, first api.Fail
	class        api.Span
	stops        []uint8
	errors       [5]api.Errno
}

func ask(x api.Test, n uint8) answers {
	var a answers
	a.errors[0] = class.Check(x)
	a.fails, a.errors[1] = class.Fails(x, n)
	a.first, a.errors[2] = class.First(x, n)
	a.class, a.errors[3] = class.Class(x, n)
	a.stops, a.errors[4] = class.Stops(x, n)
	return a
}

// R2: beside an error all else is zero.
func (a answers) zeroBesideErrors() bool {
	return (a.errors[1] == api.OK || a.fails == api.Fail{}) &&
		(a.errors[2] == api.OK || a.first == api.Fail{}) &&
		(a.errors[3] == api.OK || a.class == api.Span{}) &&
		(a.errors[4] == api.OK || len(a.stops) == 0)
}

// spare puts a list into memory that goes on behind it, with marks that must stay.
func spare[T any](list []T, mark T) []T {
	return append(slices.Clone(list), mark, mark)[:len(list)]
}

func spared(x api.Test) api.Test {
	x = copyTest(x)
	x.Run.Curve = spare(x.Run.Curve, api.Point{Minute: 77, Degree: 77})
	x.Run.Couples = spare(x.Run.Couples, api.Couple{Id: 77})
	for i := range x.Run.Rows {
		x.Run.Rows[i].Degrees = spare(x.Run.Rows[i].Degrees, 77)
	}
	x.Run.Rows = spare(x.Run.Rows, api.Row{Press: 77})
	x.Rules.Steps = spare(x.Rules.Steps, api.Step{From: 77})
	x.Notes = spare(x.Notes, api.Note{At: 77, Kind: 77})
	return x
}

// behind returns all memory of a test, to the capacity of each list.
func behind(x api.Test) []any {
	r := x.Run
	list := []any{slices.Clone(r.Curve[:cap(r.Curve)]), slices.Clone(r.Couples[:cap(r.Couples)]), slices.Clone(x.Rules.Steps[:cap(x.Rules.Steps)]), slices.Clone(x.Notes[:cap(x.Notes)])}
	for _, line := range r.Rows[:cap(r.Rows)] {
		list = append(list, line.Press, slices.Clone(line.Degrees[:cap(line.Degrees)]))
	}
	return list
}

// R3: no argument is written to, no result is kept, and no call remembers another one.
func TestMemory(t *testing.T) {
	g := rand.New(rand.NewSource(10))
	for range 300 {
		x, n := spared(someTest(g)), uint8(between(g, 1, 6))
		before := behind(x)
		a := ask(x, n)
		if !reflect.DeepEqual(before, behind(x)) {
			t.Fatal("an argument is written to")
		}
		kept := slices.Clone(a.stops)
		for i := range a.stops[:cap(a.stops)] {
			a.stops[:cap(a.stops)][i] = 99
		}
		ask(someTest(g), n)
		b := ask(x, n)
		if !slices.Equal(kept, b.stops) || a.fails != b.fails || a.first != b.first || a.class != b.class || a.errors != b.errors {
			t.Fatal(a, b)
		}
		if !reflect.DeepEqual(before, behind(x)) {
			t.Fatal("an argument is written to, or a result is a part of one")
		}
	}
}

// R4: an empty list is a nil one.
func TestNilAndEmpty(t *testing.T) {
	for n := range uint8(8) {
		x := bare(1000, span(0, 3))
		a := ask(x, n)
		x.Notes, x.Rules.Steps = []api.Note{}, []api.Step{}
		if b := ask(x, n); !reflect.DeepEqual(a, b) {
			t.Error(a, b)
		}
	}
}

// change changes a number of a test, or some, to any ones.
func change(g *rand.Rand, x *api.Test) {
	numbers := []int{math.MinInt, math.MinInt + 1, -201, -121, -1, 0, 1, 2, 60, 121, 201, 3600, 9999, 10000, 10001, math.MaxInt - 1, math.MaxInt}
	number := func() int { return numbers[g.Intn(len(numbers))] }
	anySpan := func() api.Span { return span(number(), number()) }
	switch g.Intn(10) {
	case 0:
		x.Id = number()
	case 1:
		x.Clock = anySpan()
	case 2:
		x.End = number()
	case 3:
		x.Limits[g.Intn(api.Criteria)] = number()
	case 4:
		x.Notes = append(x.Notes, api.Note{At: number(), Kind: uint8(number()), Value: number(), Off: anySpan()})
	case 5:
		x.Notes = slices.Insert(x.Notes, 0, api.Note{At: number(), Kind: uint8(between(g, 0, 7)), Value: number()})
	case 6:
		x.Run.Couples[0].Error = anySpan()
	case 7:
		x.Run.Rows[0] = api.Row{Degrees: []int{number()}, Press: number()}
	case 8:
		x.Rules.Single, x.Rules.SingleFrom = number(), number()
	case 9:
		x.Run.Rows = x.Run.Rows[:g.Intn(len(x.Run.Rows)+1)]
	}
}

// R2, R5 and R7: any values at all.
func TestAnyValues(t *testing.T) {
	g := rand.New(rand.NewSource(11))
	seen := map[api.Errno]int{}
	for range 20000 {
		x := someTest(g)
		for range between(g, 1, 3) {
			if len(x.Run.Rows) > 0 {
				change(g, &x)
			}
		}
		a := ask(x, uint8(g.Intn(8)))
		if !a.zeroBesideErrors() {
			t.Fatal(a)
		}
		seen[a.errors[0]]++
	}
	for _, e := range []api.Errno{api.OK, api.ErrRun, api.ErrRules, api.ErrTest, api.ErrTwist} {
		if seen[e] == 0 {
			t.Error("never", e)
		}
	}
	for n := range 256 {
		if a := ask(api.Test{}, uint8(n)); !a.zeroBesideErrors() || a.errors != [5]api.Errno{api.ErrRun, api.ErrRun, api.ErrRun, api.ErrRun, api.ErrRun} {
			t.Error(n, a)
		}
	}
}

// R5: the greatest numbers that there can be, and the least ones.
func TestGreatest(t *testing.T) {
	x := bare(3600, span(-120, 120), off(note(0, 1, 10000), -200, 200), off(note(3600, 1, 0), -200, 200), off(note(3600, 2, 10000), 200, 200))
	x.Limits = [api.Criteria]int{10000, 10000, 10000, 10000, 10000, 10000}
	if f := failsOf(t, x, 1); f != fail(2, 0, 0) {
		t.Error(f)
	}
	if f := failsOf(t, x, 2); f != fail(2, 0, 0) {
		t.Error(f)
	}
	x.Limits, x.Notes = [api.Criteria]int{200, 9799, 0, 0, 0, 0}, x.Notes[1:]
	if f := failsOf(t, x, 1); f != fail(2, 0, 0) {
		t.Error(f)
	}
	if f := failsOf(t, x, 2); f != fail(0, -120, 3720) {
		t.Error(f)
	}
	if s := classOf(t, x, api.LetterI); s != span(0, 60) {
		t.Error(s)
	}
}
