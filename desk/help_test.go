package desk_test

import (
	"fmt"
	"math"
	"math/rand"
	"slices"
	"strings"
	"testing"

	"cottonpad/api"
	"cottonpad/class"
	"cottonpad/desk"
)

func list(numbers ...int) []int { return numbers }

func span(lo, hi int) api.Span { return api.Span{Lo: lo, Hi: hi} }

// deed is one by its word, and its numbers with a space before each.
func deed(said string) api.Deed {
	words := strings.Fields(said)
	d := api.Deed{Word: words[0]}
	for _, word := range words[1:] {
		n := 0
		fmt.Sscan(word, &n)
		d.Nums = append(d.Nums, n)
	}
	return d
}

// deeds are some of them, with a semicolon between each two.
func deeds(said string) []api.Deed {
	var all []api.Deed
	for _, s := range strings.Split(said, ";") {
		if s = strings.TrimSpace(s); s != "" {
			all = append(all, deed(s))
		}
	}
	return all
}

func factory(id int) api.Record { return api.Record{Id: id, Kind: api.RecFactory} }

func drawing(id int) api.Record { return api.Record{Id: id, Kind: api.RecDrawing} }

func batch(id int, ways ...[]int) api.Record {
	return api.Record{Id: id, Kind: api.RecBatch, Ways: ways}
}

func certificate(id int, ways ...[]int) api.Record {
	return api.Record{Id: id, Kind: api.RecCertificate, Ways: ways}
}

func withdraw(id, day, about int) api.Letter {
	return api.Letter{Id: id, Day: day, About: about, Kind: api.LetterWithdraw}
}

func restore(id, day, about int) api.Letter {
	return api.Letter{Id: id, Day: day, About: about, Kind: api.LetterRestore}
}

func wish(letter uint8, minutes int, props ...int) api.Wish {
	return api.Wish{Letter: letter, Minutes: minutes, Props: props}
}

// lasting is a test of so many minutes, in which all held, by a clock that does not err, in a furnace that kept its limits.
func lasting(minutes int) api.Test {
	t := api.Test{
		Run:    api.Run{Curve: []api.Point{{Degree: 100}, {Minute: 60, Degree: 100}}, Couples: []api.Couple{{Id: 1}}},
		Rules:  api.Rules{Single: 5, SingleFrom: 1, Press: span(-100, 100), PressFrom: 1},
		End:    60 * minutes,
		Limits: [api.Criteria]int{100, 10, 6, 0, 180, 140},
	}
	for range minutes {
		t.Run.Rows = append(t.Run.Rows, api.Row{Degrees: list(100)})
	}
	for i := range uint8(api.Criteria) {
		t.Notes = append(t.Notes, api.Note{At: t.End, Kind: i + 1})
	}
	return t
}

// begun is a test of so many minutes, of which nothing is noted.
func begun(minutes int) api.Test {
	t := lasting(minutes)
	t.Notes = nil
	return t
}

// exampleTest is the test of layer 2's examples.
func exampleTest() api.Test {
	t := lasting(25)
	t.Id, t.Clock = 4, span(0, 30)
	t.Run.Couples[0].Error = span(0, 5)
	t.Run.Rows[21].Degrees[0] = 110
	off := span(-10, 10)
	t.Notes = []api.Note{
		{At: 600, Kind: api.CritPoint, Value: 150, Off: off}, {At: 900, Kind: api.CritPoint, Value: 175, Off: off},
		{At: 1000, Kind: api.CritCotton}, {At: 1200, Kind: api.CritPoint, Value: 195, Off: off}, {At: 1260, Kind: api.CritCotton, Value: 1},
		{At: 1500, Kind: api.CritBend, Value: 60}, {At: 1500, Kind: api.CritSpeed, Value: 5}, {At: 1500, Kind: api.CritGap, Value: 4}, {At: 1500, Kind: api.CritMean, Value: 100},
	}
	return t
}

// example is the office of the chapter's examples.
func example() api.Office {
	return api.Office{
		Day:       40,
		Clauses:   []api.Clause{{Property: 0, Kind: api.ClauseUpTo, By: 100}},
		Specimens: []api.Specimen{{Test: exampleTest(), Props: list(2000, 1000, 1, 0, 0, 0)}},
		Records:   []api.Record{factory(1), drawing(2)},
	}
}

// busy is an office in which something of all kinds is kept. Its specimens have the classes 15, none, 30 and 10; the second and the last one are not shut.
func busy() api.Office {
	return api.Office{
		Day: 50,
		Clauses: []api.Clause{
			{Property: 0, Kind: api.ClauseUpTo, By: 100},
			{Property: 1, Kind: api.ClauseSame},
			{Property: 2, Kind: api.ClauseFrom, By: 20, Over: 5},
		},
		Specimens: []api.Specimen{
			{Test: lasting(16), Props: list(2000, 7, 50, 0, 0, 0)},
			{Test: begun(3), Props: list(3000, 8, 0, 0, 0, 0)},
			{Test: lasting(30), Props: list(1000, 7, 40, 9, 8, 7)},
			{Test: lasting(10), Props: list(4000, 7, 0, 0, 0, 0)},
		},
		Shut:    list(0, 2),
		Prints:  []api.Print{{Specimen: 2, Letter: api.LetterI, Minutes: 30, Day: 10}, {Specimen: 0, Letter: api.LetterE, Minutes: 15, Day: 10}, {Specimen: 0, Letter: api.LetterR, Minutes: 15, Day: 50}},
		Records: []api.Record{factory(10), drawing(20), batch(30, list(10, 20)), certificate(40, list(30), list(20)), factory(50), certificate(60, list(50), list(40))},
		Letters: []api.Letter{withdraw(3, 20, 10), restore(5, 30, 10), withdraw(8, 50, 50)},
		Grants:  []api.Grant{{Id: 40, Wish: wish(api.LetterI, 10, 2100, 7, 30, 0, 0, 0)}, {Id: 60, Wish: wish(api.LetterR, 25, 1100, 7, 20, 0, 0, 0)}},
		Log:     deeds("day 50; print 0 1"),
	}
}

// with is an office with a change.
func with(o api.Office, change func(o *api.Office)) api.Office {
	o = copied(o)
	change(&o)
	return o
}

// shown is an office, or anything else, as a text, in which a nil list is as an empty one.
func shown(x any) string { return fmt.Sprintf("%+v", x) }

func same(a, b any) bool { return shown(a) == shown(b) }

// done is an office after deeds that are done.
func done(t *testing.T, o api.Office, said string) api.Office {
	t.Helper()
	for _, d := range deeds(said) {
		next, _, e := desk.Do(o, d)
		if e != api.OK {
			t.Fatal(d, e)
		}
		o = next
	}
	return o
}

// expect checks what a deed does to an office: what is said, and the error, or otherwise what is changed but for the Log.
func expect(t *testing.T, o api.Office, d api.Deed, said string, want api.Errno, change func(o *api.Office)) {
	t.Helper()
	next, words, e := desk.Do(o, d)
	if words != said || e != want {
		t.Error(d, words, e, "not", said, want)
	}
	after := api.Office{}
	if want == api.OK {
		after = with(o, change)
		after.Log = append(after.Log, d)
	}
	if !same(next, after) {
		t.Error(d, "leaves", shown(next), "not", shown(after))
	}
}

// expectError checks that a deed has an error.
func expectError(t *testing.T, o api.Office, said string, want api.Errno) {
	t.Helper()
	expect(t, o, deed(said), "", want, nil)
}

// expectRefused checks that a deed is refused.
func expectRefused(t *testing.T, o api.Office, said, why string) {
	t.Helper()
	expect(t, o, deed(said), why, api.ErrRefused, nil)
}

// expectDone checks that a deed is done.
func expectDone(t *testing.T, o api.Office, said string, change func(o *api.Office)) {
	t.Helper()
	expect(t, o, deed(said), "", api.OK, change)
}

// beyond are numbers that are far outside of all spans.
func beyond() []int {
	return []int{math.MinInt, math.MinInt + 1, math.MinInt32 - 1, math.MaxInt32 + 1, math.MaxInt - 1, math.MaxInt}
}

func between(g *rand.Rand, lo, hi int) int { return lo + g.Intn(hi-lo+1) }

func someOf[T any](g *rand.Rand, list []T) T { return list[g.Intn(len(list))] }

func someSpan(g *rand.Rand, lo, hi int) api.Span {
	a, b := between(g, lo, hi), between(g, lo, hi)
	return span(min(a, b), max(a, b))
}

// classOf is the class that a test has whatever is true.
func classOf(t api.Test, letter uint8) int {
	minutes, e := class.Class(t, letter)
	if e != api.OK {
		panic(e)
	}
	return minutes.Lo
}

// copied is an office in memory of its own.
func copied(o api.Office) api.Office {
	o.Clauses, o.Shut, o.Prints, o.Letters = slices.Clone(o.Clauses), slices.Clone(o.Shut), slices.Clone(o.Prints), slices.Clone(o.Letters)
	o.Specimens, o.Records, o.Grants, o.Log = slices.Clone(o.Specimens), slices.Clone(o.Records), slices.Clone(o.Grants), slices.Clone(o.Log)
	for i := range o.Specimens {
		s := &o.Specimens[i]
		s.Props, s.Test.Notes, s.Test.Rules.Steps = slices.Clone(s.Props), slices.Clone(s.Test.Notes), slices.Clone(s.Test.Rules.Steps)
		r := &s.Test.Run
		r.Curve, r.Couples, r.Rows = slices.Clone(r.Curve), slices.Clone(r.Couples), slices.Clone(r.Rows)
		for j := range r.Rows {
			r.Rows[j].Degrees = slices.Clone(r.Rows[j].Degrees)
		}
	}
	for i := range o.Records {
		r := &o.Records[i]
		r.Ways = slices.Clone(r.Ways)
		for j := range r.Ways {
			r.Ways[j] = slices.Clone(r.Ways[j])
		}
	}
	for i := range o.Grants {
		o.Grants[i].Wish.Props = slices.Clone(o.Grants[i].Wish.Props)
	}
	for i := range o.Log {
		o.Log[i].Nums = slices.Clone(o.Log[i].Nums)
	}
	return o
}
