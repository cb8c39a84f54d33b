package card_test

import (
	"fmt"
	"slices"
	"strings"
	"testing"

	"cottonpad/api"
	"cottonpad/card"
)

const exampleLog = `RUN 12 -2 2 072
CURVE 0 20 5 520 10 680 037
COUPLE 1 -5 5 0 0 0 612
COUPLE 4 0 0 0 1 3 765
RULES 60 1 0 20 3 067
STEP 2 100 772
ROW 10 120 130 995
ROW 10 220 210 989
ROW 25 330 400 055
END 9 456 314
`

const exampleCard = `TEST 5 12 456 -3 30 170 100 10 6 0 180 140 835
NOTE 0 3 0 0 0 640
NOTE 60 5 175 -10 10 742
NOTE 170 4 1 0 1 105
END 4 773 299
`

const exampleCertText = `CERT 6 4 2 15 10 297
REST 2 268
REST 4 280
REST 5 286
REST 6 292
END 5 289 331
`

// Examples: lines with their checks, as the tests' own helper tells them, too.
func TestExampleLines(t *testing.T) {
	if s := body("ROW 10 120 130", "END 0 0"); s != "ROW 10 120 130 995\nEND 0 0 328\n" {
		t.Error(s)
	}
	if !strings.Contains(exampleLog, "\nROW 10 120 130 995\n") {
		t.Error(exampleLog)
	}
	if s := text(); s != "END 0 0 328\n" {
		t.Error(s)
	}
}

// P10.1 to P10.3, and examples: texts, byte for byte, and what is read of them, in its place.
func TestExampleTexts(t *testing.T) {
	x := shortTest()
	if s, e := card.WriteLog(x.Run, x.Rules); s != exampleLog || e != api.OK {
		t.Error(s, e)
	}
	if s, e := card.WriteCard(x); s != exampleCard || e != api.OK {
		t.Error(s, e)
	}
	if s, e := card.WriteCert(exampleCert()); s != exampleCertText || e != api.OK {
		t.Error(s, e)
	}
	if r, u, line, e := card.ReadLog(exampleLog); fmt.Sprint(r, u) != fmt.Sprint(x.Run, x.Rules) || line != 0 || e != api.OK {
		t.Error(r, u, line, e)
	}
	if y, line, e := card.ReadCard(exampleCard, exampleLog); fmt.Sprint(y) != fmt.Sprint(x) || line != 0 || e != api.OK {
		t.Error(y, line, e)
	}
	if c, line, e := card.ReadCert(exampleCertText); fmt.Sprint(c) != fmt.Sprint(exampleCert()) || line != 0 || e != api.OK {
		t.Error(c, line, e)
	}
}

// P10.1 to P10.3: each number has its own place. All numbers are other ones.
func TestPlaces(t *testing.T) {
	x := api.Test{
		Id: 31,
		Run: api.Run{
			Id:      32,
			Curve:   []api.Point{{Minute: 0, Degree: 33}, {Minute: 34, Degree: 35}},
			Couples: []api.Couple{{Id: 36, Error: span(-37, 38), Lag: span(2, 3), Breaks: 39}},
			Rows:    []api.Row{{Degrees: list(40), Press: -41}, {Degrees: list(42), Press: 43}},
			Gauge:   span(-19, 18),
		},
		Rules:  api.Rules{Steps: []api.Step{{From: 44, Part: 45}}, Single: 46, SingleFrom: 47, Press: span(-48, 49), PressFrom: 50},
		Clock:  span(-51, 52),
		End:    53,
		Limits: [api.Criteria]int{54, 55, 56, 57, 58, 59},
		Notes:  []api.Note{{At: 21, Kind: 6, Value: 22, Off: span(-23, 24)}},
	}
	log := text("RUN 32 -19 18", "CURVE 0 33 34 35", "COUPLE 36 -37 38 2 3 39", "RULES 46 47 -48 49 50", "STEP 44 45", "ROW -41 40", "ROW 43 42")
	seal := strings.Split(log[strings.Index(log, "END"):], " ")[2]
	file := text("TEST 31 32 "+seal+" -51 52 53 54 55 56 57 58 59", "NOTE 21 6 22 -23 24")
	if s, e := card.WriteLog(x.Run, x.Rules); s != log || e != api.OK {
		t.Error(s, e)
	}
	if s, e := card.WriteCard(x); s != file || e != api.OK {
		t.Error(s, e)
	}
	if y, line, e := card.ReadCard(file, log); fmt.Sprint(y) != fmt.Sprint(x) || line != 0 || e != api.OK {
		t.Error(y, line, e)
	}
	c := api.Cert{Id: 11, Test: 12, Letter: 3, Minutes: 13, Day: 14, Rests: list(15, 16)}
	if s, e := card.WriteCert(c); s != text("CERT 11 12 3 13 14", "REST 15", "REST 16") || e != api.OK {
		t.Error(s, e)
	}
	if d, line, e := card.ReadCert(text("CERT 11 12 3 13 14", "REST 15", "REST 16")); fmt.Sprint(d) != fmt.Sprint(c) || line != 0 || e != api.OK {
		t.Error(d, line, e)
	}
}

// P10.1 to P10.3: the shortest texts that are valid, and the ones with the greatest numbers and lists.
func TestShortestAndLongest(t *testing.T) {
	short := api.Test{
		Run:   api.Run{Curve: []api.Point{{}, {Minute: 1}}, Couples: []api.Couple{{}}, Rows: []api.Row{{Degrees: list(0)}}},
		Rules: api.Rules{SingleFrom: 1, PressFrom: 1},
		End:   1,
	}
	long := with(short, func(x *api.Test) {
		x.Id, x.Clock, x.Limits = 9999, span(-120, 120), [api.Criteria]int{10000, 10000, 10000, 10000, 10000, 10000}
		x.Run = api.Run{Id: 9999, Gauge: span(-20, 20)}
		x.Rules = api.Rules{Single: 2000, SingleFrom: 600, Press: span(-100, 100), PressFrom: 600}
		for i := range api.MaxPoints {
			x.Run.Curve = append(x.Run.Curve, api.Point{Minute: 66 * i, Degree: 222 * i})
		}
		for i := range api.MaxCouples {
			x.Run.Couples = append(x.Run.Couples, api.Couple{Id: 9992 + i, Error: span(-50, 50), Lag: span(3, 3), Breaks: 600})
		}
		for i := range api.MaxSteps {
			x.Rules.Steps = append(x.Rules.Steps, api.Step{From: 596 + i, Part: 1000})
		}
		for i := range api.MaxRows {
			x.Run.Rows = append(x.Run.Rows, api.Row{Degrees: slices.Repeat(list(222*i/60), 8), Press: -100})
			x.Notes = append(x.Notes, api.Note{At: 3600, Kind: 6, Value: 10000, Off: span(-200, 200)})
		}
		x.End = 3600
	})
	for i, x := range []api.Test{short, long} {
		log, e := card.WriteLog(x.Run, x.Rules)
		if log != logText(x.Run, x.Rules) || e != api.OK {
			t.Fatal(i, log, e)
		}
		file, e := card.WriteCard(x)
		if file != cardText(x) || e != api.OK {
			t.Fatal(i, file, e)
		}
		if y, line, e := card.ReadCard(file, log); !sameTest(x, y) || line != 0 || e != api.OK {
			t.Error(i, y, line, e)
		}
	}
	for _, c := range []api.Cert{{Letter: 1, Minutes: 1}, {Id: 9999, Test: 9999, Letter: 3, Minutes: 60, Day: 100000, Rests: manyRests(12).Rests}} {
		s, e := card.WriteCert(c)
		if s != certText(c) || e != api.OK {
			t.Fatal(s, e)
		}
		if d, line, e := card.ReadCert(s); !sameCert(c, d) || line != 0 || e != api.OK {
			t.Error(d, line, e)
		}
	}
}

// judged is what Judge has to tell of a certificate.
type judged struct {
	name       string
	change     func(c *api.Cert)
	known, lie uint8
}

func (x judged) expect(t *testing.T, c api.Cert, test api.Test, r []api.Record, l []api.Letter) {
	t.Helper()
	if known, lie, e := card.Judge(c, test, r, l); known != x.known || lie != x.lie || e != api.OK {
		t.Error(x.name, known, lie, e)
	}
}

// P10.4 and examples: what is judged, and each lie alone.
func TestJudge(t *testing.T) {
	for _, x := range []judged{
		{"as it is", func(c *api.Cert) {}, 2, api.LieNot},
		{"20 minutes", func(c *api.Cert) { c.Minutes = 20 }, 1, api.LieNot},
		{"30 minutes", func(c *api.Cert) { c.Minutes = 30 }, 0, api.LieClass},
		{"on 20", func(c *api.Cert) { c.Day = 20 }, 0, api.LieRests},
		{"on 20 with its rests", func(c *api.Cert) { c.Day, c.Rests = 20, list(1, 2, 3, 6) }, 2, api.LieNot},
		{"on 19", func(c *api.Cert) { c.Day = 19 }, 2, api.LieNot},
		{"on 9", func(c *api.Cert) { c.Day = 9 }, 0, api.LieRests},
		{"on 9 with its rests", func(c *api.Cert) { c.Day, c.Rests = 9, list(1, 2, 3, 6) }, 2, api.LieNot},
		{"on the last day", func(c *api.Cert) { c.Day, c.Rests = api.MaxDay, list(1, 2, 3, 6) }, 2, api.LieNot},
		{"with 7 in Rests", func(c *api.Cert) { c.Rests = list(2, 4, 5, 6, 7) }, 0, api.LieRests},
		{"without Rests", func(c *api.Cert) { c.Rests = nil }, 0, api.LieRests},
		{"without one of Rests", func(c *api.Cert) { c.Rests = list(2, 4, 5) }, 0, api.LieRests},
		{"with another one of Rests", func(c *api.Cert) { c.Rests = list(2, 3, 5, 6) }, 0, api.LieRests},
		{"of another test", func(c *api.Cert) { c.Test = 5 }, 0, api.LieTest},
		{"no such record", func(c *api.Cert) { c.Id = 8 }, 0, api.LieRecord},
		{"a batch", func(c *api.Cert) { c.Id, c.Rests = 5, list(2, 4, 5) }, 0, api.LieRecord},
		{"a factory", func(c *api.Cert) { c.Id, c.Rests = 4, list(4) }, 0, api.LieRecord},
		{"a drawing", func(c *api.Cert) { c.Id, c.Rests = 2, list(2) }, 0, api.LieRecord},
		{"7", func(c *api.Cert) { c.Id, c.Rests = 7, list(2, 4, 5, 6, 7) }, 2, api.LieNot},
		{"7 when it does not hold", func(c *api.Cert) { c.Id, c.Day, c.Rests = 7, 20, nil }, 0, api.LieBroken},
		{"7 the day before", func(c *api.Cert) { c.Id, c.Day, c.Rests = 7, 19, list(2, 4, 5, 6, 7) }, 2, api.LieNot},
	} {
		x.expect(t, certWith(x.change), exampleTest(), records(), letters())
	}
}

// P10.4: Minutes at, below and above both ends of the class, for each letter.
func TestJudgeMinutes(t *testing.T) {
	for letter, ends := range map[uint8]api.Span{api.LetterR: span(20, 20), api.LetterE: span(15, 20), api.LetterI: span(5, 15)} {
		for minutes := 1; minutes <= 60; minutes++ {
			x := judged{name: fmt.Sprint(letter, minutes), known: 2}
			if minutes > ends.Lo {
				x.known = 1
			}
			if minutes > ends.Hi {
				x.known, x.lie = 0, api.LieClass
			}
			x.expect(t, certWith(func(c *api.Cert) { c.Letter, c.Minutes = letter, minutes }), exampleTest(), records(), letters())
		}
	}
	// Without a class even one minute is a lie.
	none := with(exampleTest(), func(x *api.Test) { x.End, x.Notes = 200, nil })
	judged{"no class", nil, 0, api.LieClass}.expect(t, certWith(func(c *api.Cert) { c.Minutes = 1 }), none, records(), letters())
}

// P10.4: of two lies the first one counts.
func TestTwoLies(t *testing.T) {
	// Whatever else is so then, the one that comes first in the table is told.
	lies := []func(c *api.Cert){
		func(c *api.Cert) { c.Test = 5 },
		func(c *api.Cert) { c.Id = 8 },
		func(c *api.Cert) { c.Id, c.Day, c.Rests = 7, 30, list(2, 4, 5, 6, 7) },
		func(c *api.Cert) { c.Rests = list(2) },
		func(c *api.Cert) { c.Minutes = 60 },
	}
	for i := range lies {
		for j := range i + 1 {
			c := exampleCert()
			lies[i](&c)
			lies[j](&c)
			judged{fmt.Sprint(i, j), nil, 0, uint8(j + 1)}.expect(t, c, exampleTest(), records(), letters())
		}
	}
	// A record that is none, and one that is no certificate, though it does not hold.
	judged{"a broken batch", nil, 0, api.LieRecord}.expect(t, certWith(func(c *api.Cert) { c.Id, c.Day = 5, 30 }), exampleTest(), records(), letters())
}

// P10.5 and examples: the day on which a certificate lapses.
func TestLapse(t *testing.T) {
	back := append(letters(), withdraw(4, 12, 6), restore(5, 15, 6))
	for i, x := range []struct {
		id, day int
		l       []api.Letter
		want    int
	}{
		{6, 10, letters(), -1}, {7, 10, letters(), 20},
		{7, 0, letters(), 20}, {7, 19, letters(), 20}, {7, 20, letters(), 20}, {7, 21, letters(), 21}, {7, 100000, letters(), 100000},
		{6, 0, letters(), -1}, {6, 100000, letters(), -1}, {6, 10, nil, -1},
		// What is restored later has lapsed; on the day of a letter itself it counts.
		{6, 10, back, 12}, {6, 12, back, 12}, {6, 14, back, 14}, {6, 15, back, -1}, {7, 15, back, 20}, {7, 0, back, 12},
		// Letters of one day: the last one counts.
		{6, 0, []api.Letter{withdraw(1, 7, 6), restore(2, 7, 6)}, -1}, {6, 0, []api.Letter{restore(1, 7, 6), withdraw(2, 7, 6)}, 7},
		// On the first day, and on the last one.
		{6, 0, []api.Letter{withdraw(1, 0, 6)}, 0}, {6, 0, []api.Letter{withdraw(1, 100000, 2)}, 100000}, {6, 100000, []api.Letter{withdraw(1, 100000, 2)}, 100000},
		// Letters need not come in the order of their days.
		{6, 0, []api.Letter{withdraw(1, 50, 6), withdraw(2, 40, 2), withdraw(3, 60, 1)}, 40},
		// Before Day it does not matter.
		{6, 30, []api.Letter{withdraw(1, 10, 6), restore(2, 20, 6), withdraw(3, 40, 6)}, 40}, {6, 15, []api.Letter{withdraw(1, 10, 6), restore(2, 20, 6)}, 15},
		// It is asked of any record with this Id.
		{5, 10, letters(), 20}, {4, 10, letters(), 20}, {1, 10, letters(), 10}, {1, 20, letters(), -1}, {2, 0, letters(), -1},
	} {
		c := certWith(func(c *api.Cert) { c.Id, c.Day = x.id, x.day })
		if day, e := card.Lapse(c, records(), x.l); day != x.want || e != api.OK {
			t.Error(i, day, e)
		}
	}
}
