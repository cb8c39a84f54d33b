package card_test

import (
	"math"
	"math/rand"
	"reflect"
	"slices"
	"testing"

	"cottonpad/api"
	"cottonpad/card"
)

// asked is all that the functions of the package are asked with.
type asked struct {
	test            api.Test
	cert            api.Cert
	of              archive
	log, file, text string
}

// answers is all that they return.
type answers struct {
	texts      [3]string
	run        api.Run
	rules      api.Rules
	test       api.Test
	cert       api.Cert
	lines      [3]int
	known, lie uint8
	lapse      int
	errors     [8]api.Errno
}

func ask(q asked) answers {
	var a answers
	a.texts[0], a.errors[0] = card.WriteLog(q.test.Run, q.test.Rules)
	a.texts[1], a.errors[1] = card.WriteCard(q.test)
	a.texts[2], a.errors[2] = card.WriteCert(q.cert)
	a.run, a.rules, a.lines[0], a.errors[3] = card.ReadLog(q.log)
	a.test, a.lines[1], a.errors[4] = card.ReadCard(q.file, q.log)
	a.cert, a.lines[2], a.errors[5] = card.ReadCert(q.text)
	a.known, a.lie, a.errors[6] = card.Judge(q.cert, q.test, q.of.r, q.of.l)
	a.lapse, a.errors[7] = card.Lapse(q.cert, q.of.r, q.of.l)
	return a
}

// asks is a test and a certificate, with their texts.
func asks(test api.Test, cert api.Cert, of archive) asked {
	return asked{test: test, cert: cert, of: of, log: logText(test.Run, test.Rules), file: cardText(test), text: certText(cert)}
}

func someAsked(g *rand.Rand) asked {
	x := someArchive(g)
	test := someTest(g, 4)
	return asks(test, x.claim(g, test), x)
}

// zeroBesideErrors is R2, and that a line is told just with the errors that have one.
func (a answers) zeroBesideErrors() bool {
	for i, s := range a.texts {
		if (a.errors[i] == api.OK) != (s != "") {
			return false
		}
	}
	for i, line := range a.lines {
		e := a.errors[3+i]
		if (line > 0) != (e == api.ErrWrong || e == api.ErrLast || e == api.ErrMatch) || line < 0 {
			return false
		}
	}
	return (a.errors[3] == api.OK || isZero(a.run) && isZero(a.rules)) &&
		(a.errors[4] == api.OK || isZero(a.test)) &&
		(a.errors[5] == api.OK || isZero(a.cert)) &&
		(a.errors[6] == api.OK || a.known == 0 && a.lie == 0) &&
		(a.errors[7] == api.OK || a.lapse == 0)
}

func isZero(x any) bool { return reflect.ValueOf(x).IsZero() }

// copied is the same answers in other memory, an empty list being a nil one.
func (a answers) copied() answers {
	full := func(r api.Run, u api.Rules) (api.Run, api.Rules) {
		x := nilled(api.Test{Run: r, Rules: u})
		return x.Run, x.Rules
	}
	a.run, a.rules = full(a.run, a.rules)
	a.test = nilled(a.test)
	a.cert.Rests = append([]int(nil), a.cert.Rests...)
	return a
}

// nilled is a copy of a test in which no list is empty but nil ones.
func nilled(t api.Test) api.Test {
	t.Run.Curve = append([]api.Point(nil), t.Run.Curve...)
	t.Run.Couples = append([]api.Couple(nil), t.Run.Couples...)
	t.Run.Rows = append([]api.Row(nil), t.Run.Rows...)
	for i := range t.Run.Rows {
		t.Run.Rows[i].Degrees = append([]int(nil), t.Run.Rows[i].Degrees...)
	}
	t.Rules.Steps = append([]api.Step(nil), t.Rules.Steps...)
	t.Notes = append([]api.Note(nil), t.Notes...)
	return t
}

// fill writes to all memory of a list.
func fill[T any](list []T, mark T) {
	for i := range list[:cap(list)] {
		list[:cap(list)][i] = mark
	}
}

func fillRun(r api.Run, u api.Rules) {
	for _, row := range r.Rows {
		fill(row.Degrees, 99)
	}
	fill(r.Rows, api.Row{Press: 99})
	fill(r.Curve, api.Point{Minute: 99})
	fill(r.Couples, api.Couple{Id: 99})
	fill(u.Steps, api.Step{From: 99})
}

// spare puts a list into memory that goes on behind it, with marks that must stay.
func spare[T any](list []T, mark T) []T {
	return append(slices.Clone(list), mark, mark)[:len(list)]
}

func (q asked) spared() asked {
	x := copyTest(q.test)
	for i := range x.Run.Rows {
		x.Run.Rows[i].Degrees = spare(x.Run.Rows[i].Degrees, 77)
	}
	x.Run.Rows, x.Run.Curve, x.Run.Couples = spare(x.Run.Rows, api.Row{Press: 77}), spare(x.Run.Curve, api.Point{Minute: 77}), spare(x.Run.Couples, api.Couple{Id: 77})
	x.Rules.Steps, x.Notes = spare(x.Rules.Steps, api.Step{From: 77}), spare(x.Notes, api.Note{At: 77})
	q.test = x
	q.cert.Rests = spare(q.cert.Rests, 77)
	r := spare(q.of.r, api.Record{Id: 77})
	for i := range r {
		r[i].Ways = spare(r[i].Ways, list(77))
		for j := range r[i].Ways {
			r[i].Ways[j] = spare(r[i].Ways[j], 77)
		}
	}
	q.of = archive{r: r, l: spare(q.of.l, withdraw(77, 77, 77))}
	return q
}

// behind is a copy of all memory of the arguments, to the capacity of each list.
func (q asked) behind() []any {
	x := q.test
	all := []any{slices.Clone(x.Run.Curve[:cap(x.Run.Curve)]), slices.Clone(x.Run.Couples[:cap(x.Run.Couples)]), slices.Clone(x.Rules.Steps[:cap(x.Rules.Steps)]), slices.Clone(x.Notes[:cap(x.Notes)]), slices.Clone(q.cert.Rests[:cap(q.cert.Rests)]), slices.Clone(q.of.l[:cap(q.of.l)])}
	for _, row := range x.Run.Rows[:cap(x.Run.Rows)] {
		all = append(all, row.Press, slices.Clone(row.Degrees[:cap(row.Degrees)]))
	}
	for _, r := range q.of.r[:cap(q.of.r)] {
		all = append(all, r.Id, r.Kind, len(r.Ways))
		for _, way := range r.Ways[:cap(r.Ways)] {
			all = append(all, slices.Clone(way[:cap(way)]))
		}
	}
	return all
}

// R3: no argument is written to, no result shares memory with an argument or another one, and no call remembers another one.
func TestMemory(t *testing.T) {
	g := rand.New(rand.NewSource(10))
	for range 300 {
		q := someAsked(g).spared()
		before := q.behind()
		a := ask(q)
		kept := a.copied()
		fillRun(a.run, a.rules)
		if b := a.copied(); !reflect.DeepEqual(kept.test, b.test) {
			t.Fatal("results share memory")
		}
		fillRun(a.test.Run, a.test.Rules)
		fill(a.test.Notes, api.Note{At: 99})
		fill(a.cert.Rests, 99)
		ask(someAsked(g))
		if b := ask(q).copied(); !reflect.DeepEqual(kept, b) {
			t.Fatal(kept, b)
		}
		if !reflect.DeepEqual(before, q.behind()) {
			t.Fatal("an argument is written to, or a result is a part of one")
		}
	}
}

// R3: no two lists of one result share memory.
func TestMemoryOfOneResult(t *testing.T) {
	x, _, _, _ := card.ReadLog(exampleLog)
	for i := range x.Rows {
		fill(x.Rows[i].Degrees, i)
		for j := range i {
			if x.Rows[j].Degrees[0] != j {
				t.Error("rows share memory", i, j)
			}
		}
	}
	y, _, _, _ := card.ReadLog(exampleLog)
	if !slices.Equal(y.Rows[0].Degrees, list(120, 130)) {
		t.Error(y)
	}
}

// R4: an empty list is a nil one.
func TestNilAndEmpty(t *testing.T) {
	x := with(shortTest(), func(x *api.Test) { x.Notes, x.Rules.Steps = nil, nil })
	y := with(x, func(x *api.Test) { x.Notes, x.Rules.Steps = []api.Note{}, []api.Step{} })
	c := certWith(func(c *api.Cert) { c.Rests = nil })
	d := certWith(func(c *api.Cert) { c.Rests = list() })
	r := []api.Record{{Id: 6, Kind: api.RecFactory}}
	s := []api.Record{{Id: 6, Kind: api.RecFactory, Ways: [][]int{}}}
	for i, p := range [][2]asked{
		{asks(x, c, archive{r: r}), asks(y, d, archive{r: s, l: []api.Letter{}})},
		{asks(x, c, archive{}), asks(y, d, archive{r: []api.Record{}, l: []api.Letter{}})},
		{asks(api.Test{}, api.Cert{}, archive{}), asks(api.Test{Run: api.Run{Curve: []api.Point{}, Couples: []api.Couple{}, Rows: []api.Row{}}, Rules: api.Rules{Steps: []api.Step{}}, Notes: []api.Note{}}, api.Cert{Rests: list()}, archive{})},
	} {
		a, b := ask(p[0]).copied(), ask(p[1]).copied()
		if !reflect.DeepEqual(a, b) || !a.zeroBesideErrors() || !b.zeroBesideErrors() {
			t.Error(i, a, b)
		}
	}
	// A certificate whose record rests on nothing else, on its Day and on none.
	for _, rests := range [][]int{nil, {}, {6}} {
		known, lie, e := card.Judge(certWith(func(c *api.Cert) { c.Rests = rests }), exampleTest(), records(), append(letters(), withdraw(9, 10, 6)))
		if known != 0 || lie != api.LieBroken || e != api.OK {
			t.Error(known, lie, e)
		}
	}
}

func someNumber(g *rand.Rand) int {
	return someOf(g, list(math.MinInt, math.MinInt+1, -1000000001, -1000000000, -100001, -1, -1, 0, 0, 0, 1, 1, 2, 3, 5, 10, 60, 61, 100, 255, 256, 9999, 10000, 100000, 100001, 1000000000, 1000000001, math.MaxInt32, math.MaxInt-1, math.MaxInt))
}

// change changes something of the arguments to any value.
func (q *asked) change(g *rand.Rand) {
	x, c := &q.test, &q.cert
	switch g.Intn(10) {
	case 0, 1:
		*someOf(g, []*int{&x.Id, &x.End, &x.Clock.Lo, &x.Clock.Hi, &x.Limits[g.Intn(6)], &x.Run.Id, &x.Run.Gauge.Lo, &x.Rules.Single, &x.Rules.PressFrom}) = someNumber(g)
	case 2, 3:
		*someOf(g, []*int{&c.Id, &c.Test, &c.Minutes, &c.Day}) = someNumber(g)
	case 4:
		c.Rests = append(slices.Clone(c.Rests), someNumber(g))
	case 5:
		c.Letter = uint8(someNumber(g))
	case 6:
		x.Run.Rows = append(slices.Clone(x.Run.Rows), api.Row{Press: someNumber(g), Degrees: list(someNumber(g), someNumber(g))})
	case 7:
		x.Notes = append(slices.Clone(x.Notes), api.Note{At: someNumber(g), Kind: uint8(someNumber(g)), Value: someNumber(g), Off: span(someNumber(g), someNumber(g))})
	case 8:
		q.of.r = append(slices.Clone(q.of.r), api.Record{Id: someNumber(g), Kind: uint8(g.Intn(6)), Ways: [][]int{{someNumber(g)}}})
	case 9:
		q.of.l = append(slices.Clone(q.of.l), api.Letter{Id: someNumber(g), Day: someNumber(g), About: someNumber(g), Kind: uint8(g.Intn(4))})
	}
}

// someBytes are any bytes, most of all those of lines.
func someBytes(g *rand.Rand) string {
	parts := []string{"RUN", "CURVE", "ROW", "TEST", "NOTE", "CERT", "REST", "END", " ", " ", " ", "\n", "\n", "0", "1", "-", "000", "328", "END 0 0 328\n", "\x00", "\xff", "é", "999999999999999999999"}
	s := ""
	for range g.Intn(30) {
		s += someOf(g, parts)
	}
	return s
}

// R2, R5, R6 and R7: any values, and any texts, at all.
func TestAnyValues(t *testing.T) {
	g := rand.New(rand.NewSource(11))
	seen := map[api.Errno]int{}
	for range 6000 {
		x := someArchive(g)
		test := someTest(g, 2)
		q := asked{test: test, cert: x.claim(g, test), of: x}
		for range g.Intn(4) {
			q.change(g)
		}
		q = asks(q.test, q.cert, q.of)
		for _, s := range []*string{&q.log, &q.file, &q.text} {
			if g.Intn(8) == 0 {
				*s = someBytes(g)
			}
		}
		a := ask(q)
		if !a.zeroBesideErrors() {
			t.Fatal(a, q)
		}
		for _, e := range a.errors {
			seen[e]++
		}
	}
	for _, e := range []api.Errno{api.OK, api.ErrRun, api.ErrRules, api.ErrTest, api.ErrRecords, api.ErrLetters, api.ErrNone, api.ErrWrong, api.ErrLog, api.ErrCert} {
		if seen[e] < 50 {
			t.Error("never, or too seldom", e, seen)
		}
		delete(seen, e)
	}
	for _, e := range []api.Errno{api.ErrTwist, api.ErrFull, api.ErrLast, api.ErrMatch} {
		delete(seen, e)
	}
	if len(seen) > 0 {
		t.Error("other errors", seen)
	}
}
