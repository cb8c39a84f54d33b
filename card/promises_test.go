package card_test

import (
	"fmt"
	"math/rand"
	"slices"
	"strings"
	"testing"

	"cottonpad/api"
	"cottonpad/card"
	"cottonpad/class"
	"cottonpad/trust"
)

// P10.1, P10.6 and N10: texts are those of the chapter's words, and what is written is read to the same.
func TestWrittenAndRead(t *testing.T) {
	g := rand.New(rand.NewSource(2))
	full := 0
	for i := range 1500 {
		x := someTest(g, someOf(g, list(5, 20, 60)))
		want := logText(x.Run, x.Rules)
		log, e := card.WriteLog(x.Run, x.Rules)
		if len(want) > 3000 {
			full++
			if log != "" || e != api.ErrFull {
				t.Fatal(i, log, e)
			}
			continue
		}
		if log != want || e != api.OK {
			t.Fatal(i, log, e, want)
		}
		if r, u, line, e := card.ReadLog(log); !sameRun(r, u, x.Run, x.Rules) || line != 0 || e != api.OK {
			t.Fatal(i, r, u, line, e)
		}
		file, e := card.WriteCard(x)
		if f := class.Check(x); e != f || e == api.OK && file != cardText(x) {
			t.Fatal(i, file, e, f)
		}
		y, line, f := card.ReadCard(cardText(x), log)
		if f != e || line != 0 || e == api.OK && !sameTest(x, y) {
			t.Fatal(i, y, line, f, e)
		}
		c := someCert(g)
		s, e := card.WriteCert(c)
		if s != certText(c) || e != api.OK {
			t.Fatal(i, s, e)
		}
		if d, line, e := card.ReadCert(s); !sameCert(c, d) || line != 0 || e != api.OK {
			t.Fatal(i, d, line, e)
		}
	}
	if full < 3 {
		t.Error("too few long ones", full)
	}
}

// P10.6: a card goes with its log, and with no other one of another Id or seal.
func TestCardsOfLogs(t *testing.T) {
	g := rand.New(rand.NewSource(3))
	seen := 0
	for range 200 {
		x := someTest(g, 5)
		file := cardText(x)
		own := logText(x.Run, x.Rules)
		if _, line, e := card.ReadCard(file, own); line != 0 || e != class.Check(x) {
			t.Fatal(line, e)
		}
		others := []api.Test{someTest(g, 5), with(x, func(x *api.Test) { x.Run.Id = (x.Run.Id + 1) % 10000 }), with(x, func(x *api.Test) { x.Run.Rows[0].Press = -x.Run.Rows[0].Press }), with(x, func(x *api.Test) { x.Rules.Single = (x.Rules.Single + 1) % 2001 }), with(x, func(x *api.Test) { x.Run.Rows[0].Degrees[0] = (x.Run.Rows[0].Degrees[0] + 100) % 2001 })}
		for _, y := range others {
			if y.Run.Id == x.Run.Id && sealOf(saidOfLog(y.Run, y.Rules)) == sealOf(saidOfLog(x.Run, x.Rules)) {
				continue
			}
			seen++
			if z, line, e := card.ReadCard(file, logText(y.Run, y.Rules)); !sameTest(z, api.Test{}) || line != 1 || e != api.ErrMatch {
				t.Fatal(line, e)
			}
		}
	}
	if seen < 700 {
		t.Error("too few", seen)
	}
}

// linesOf are the lines of a text, each with its line feed.
func linesOf(text string) []string { return strings.SplitAfter(strings.TrimSuffix(text, "\n"), "\n") }

// eachByte calls a function with each byte of a text that is in a line, with the number of the line.
func eachByte(text string, see func(at, line int)) {
	for at := range len(text) {
		see(at, strings.Count(text[:at], "\n")+1)
	}
}

// P10.7: one byte that is changed is always seen, in its line, or in the one after it.
func TestEachByteChanged(t *testing.T) {
	for i, k := range kinds() {
		right := []string{exampleLog, exampleCard, exampleCertText}[i]
		eachByte(right, func(at, number int) {
			for b := range 256 {
				if right[at] == byte(b) {
					continue
				}
				line, e := k.read(right[:at] + string([]byte{byte(b)}) + right[at+1:])
				if e != api.ErrWrong || line != number && (b != '\n' || line != number+1) {
					t.Fatal(k.name, at, number, b, line, e)
				}
			}
		})
		// A byte too few, and one too many.
		eachByte(right, func(at, number int) {
			if line, e := k.read(right[:at] + right[at+1:]); e != api.ErrWrong || line != number && line != number+1 {
				t.Error(k.name, at, number, line, e)
			}
			if line, e := k.read(right[:at] + right[at:at+1] + right[at:]); e != api.ErrWrong || line != number && line != number+1 {
				t.Error(k.name, at, number, line, e)
			}
		})
	}
}

// P10.7: a byte of a log that is changed is seen by each card of it.
func TestLogChanged(t *testing.T) {
	eachByte(exampleLog, func(at, _ int) {
		for _, b := range "0123456789 -\nX" {
			if exampleLog[at] == byte(b) {
				continue
			}
			if _, line, e := card.ReadCard(exampleCard, exampleLog[:at]+string(b)+exampleLog[at+1:]); line != 0 || e != api.ErrLog {
				t.Error(at, b, line, e)
			}
		}
	})
}

// P10.7: a line that ends too early with a check that is right is seen in the line after it.
func TestLineFeedInLine(t *testing.T) {
	k := logs()
	said := "ROW 10 120 " + fmt.Sprintf("%03d", checkOf("ROW 10 120")) + " 400"
	file := text(k.with(8, said)...)
	k.expect(t, "a line in a line", file, 0, api.ErrRun)
	k.expect(t, "in two lines", strings.Replace(file, " 400", "\n400", 1), 10, api.ErrWrong)
}

// swapped is a text with two of its bytes swapped.
func swapped(text string, i, j int) string {
	bytes := []byte(text)
	bytes[i], bytes[j] = bytes[j], bytes[i]
	return string(bytes)
}

// P10.7: two bytes of one line, but its line feed, that are swapped and not the same, are seen in their line.
func TestBytesSwapped(t *testing.T) {
	g := rand.New(rand.NewSource(4))
	for range 15 {
		x := someTest(g, 4)
		x.Notes = nil
		log := logText(x.Run, x.Rules)
		own := cards()
		own.read = func(text string) (int, api.Errno) { _, line, e := card.ReadCard(text, log); return line, e }
		for i, k := range []kind{logs(), own, certs()} {
			right := []string{log, cardText(x), certText(someCert(g))}[i]
			from := 0
			for n, now := range linesOf(right) {
				length := len(strings.TrimSuffix(now, "\n"))
				for a := from; a < from+length; a++ {
					for b := from; b < a; b++ {
						if right[a] == right[b] {
							continue
						}
						if line, e := k.read(swapped(right, a, b)); line != n+1 || e != api.ErrWrong {
							t.Fatal(k.name, a, b, line, e, right)
						}
					}
				}
				from += len(now)
			}
		}
	}
}

// P10.7: a line of MaxRow bytes, each of which is changed, or swapped with another one.
func TestLongLineChanged(t *testing.T) {
	k := logs()
	said := "ROW" + strings.Repeat(" 12", 97)
	right := text(k.with(8, said)...)
	from := strings.Index(right, said)
	if len(line(said)) != 299 {
		t.Fatal("not a long one", len(line(said)))
	}
	for a := from; a < from+298; a++ {
		for b := from; b < a; b++ {
			if right[a] == right[b] {
				continue
			}
			if line, e := k.read(swapped(right, a, b)); line != 9 || e != api.ErrWrong {
				t.Fatal(a, b, line, e)
			}
		}
		for b := range 256 {
			if line, e := k.read(right[:a] + string([]byte{byte(b)}) + right[a+1:]); right[a] != byte(b) && (e != api.ErrWrong || line != 9 && (b != '\n' || line != 10)) {
				t.Fatal(a, b, line, e)
			}
		}
	}
}

// P10.7: a line that is missing, and two lines that are swapped, if their checks are not the same, are seen at the end at the latest.
func TestLinesMissingAndSwapped(t *testing.T) {
	g := rand.New(rand.NewSource(5))
	atEnd := 0
	for range 60 {
		x := someTest(g, 20)
		log := logText(x.Run, x.Rules)
		if len(log) > 3000 {
			continue
		}
		own := cards()
		own.read = func(text string) (int, api.Errno) { _, line, e := card.ReadCard(text, log); return line, e }
		for i, k := range []kind{logs(), own, certs()} {
			all := linesOf([]string{log, cardText(x), certText(someCert(g))}[i])
			all[len(all)-1] = strings.TrimSuffix(all[len(all)-1], "\n") + "\n"
			for a := range all {
				missing := slices.Delete(slices.Clone(all), a, a+1)
				seeLines(t, k, missing, &atEnd)
				for b := range a {
					if checkOfLine(all[a]) != checkOfLine(all[b]) {
						other := slices.Clone(all)
						other[a], other[b] = other[b], other[a]
						seeLines(t, k, other, &atEnd)
					}
				}
			}
		}
	}
	if atEnd < 1000 {
		t.Error("too few are seen just at the end", atEnd)
	}
}

// checkOfLine is the check that a line has.
func checkOfLine(line string) string { return line[strings.LastIndex(line, " "):] }

// seeLines checks that wrong lines are seen, at the end at the latest.
func seeLines(t *testing.T, k kind, all []string, atEnd *int) {
	t.Helper()
	n, want := k.wrong(strings.Join(all, ""))
	line, e := k.read(strings.Join(all, ""))
	if line != n || e != want || e != api.ErrWrong && e != api.ErrLast {
		t.Fatal(k.name, line, e, n, want, all)
	}
	if e == api.ErrLast {
		*atEnd++
	}
}

// archive is records and letters.
type archive struct {
	r []api.Record
	l []api.Letter
}

// someArchive is any records and letters, of few days, or of many.
func someArchive(g *rand.Rand) archive {
	var x archive
	days := someOf(g, list(3, 9, api.MaxDay))
	var before []int
	for i, id := range someIds(g, between(g, 1, api.MaxRecords), 0, 30) {
		r := api.Record{Id: id, Kind: uint8(between(g, api.RecFactory, api.RecDrawing))}
		if i > 0 && g.Intn(3) > 0 {
			r.Kind = uint8(between(g, api.RecBatch, api.RecCertificate))
			for range between(g, 1, api.MaxWays) {
				var way []int
				for _, at := range someIds(g, between(g, 1, min(i, 2)), 0, i-1) {
					way = append(way, before[at])
				}
				r.Ways = append(r.Ways, way)
			}
		}
		before = append(before, id)
		x.r = append(x.r, r)
	}
	for id := range g.Intn(api.MaxLetters + 1) {
		x.l = append(x.l, api.Letter{Id: id, Day: between(g, 0, days), About: someOf(g, before), Kind: uint8(between(g, api.LetterWithdraw, api.LetterRestore))})
	}
	return x
}

// someDay is a day of a letter, the one before it, or any one.
func (x archive) someDay(g *rand.Rand) int {
	if len(x.l) > 0 && g.Intn(5) > 0 {
		return max(0, someOf(g, x.l).Day-g.Intn(2))
	}
	return g.Intn(api.MaxDay + 1)
}

func (x archive) holds(t *testing.T, day, id int) bool {
	t.Helper()
	ids, e := trust.Holds(x.r, x.l, day)
	if e != api.OK {
		t.Fatal(e, x)
	}
	return slices.Contains(ids, id)
}

func (x archive) kind(id int) uint8 {
	for _, r := range x.r {
		if r.Id == id {
			return r.Kind
		}
	}
	return 0
}

// lie is the first lie of a certificate, by the words of the chapter.
func (x archive) lie(t *testing.T, c api.Cert, test api.Test) uint8 {
	t.Helper()
	if c.Test != test.Id {
		return 1
	}
	if x.kind(c.Id) != 4 {
		return 2
	}
	if !x.holds(t, c.Day, c.Id) {
		return 3
	}
	rests, e := trust.Rests(x.r, x.l, c.Day, c.Id)
	if e != api.OK {
		t.Fatal(e, x)
	}
	if !slices.Equal(rests, c.Rests) {
		return 4
	}
	if s := classOf(t, test, c.Letter); c.Minutes > s.Lo && c.Minutes > s.Hi {
		return 5
	}
	return 0
}

func classOf(t *testing.T, test api.Test, letter uint8) api.Span {
	t.Helper()
	s, e := class.Class(test, letter)
	if e != api.OK {
		t.Fatal(e, test)
	}
	return s
}

// claim is a certificate of a record that is mostly true.
func (x archive) claim(g *rand.Rand, test api.Test) api.Cert {
	certificates := slices.DeleteFunc(slices.Clone(x.r), func(r api.Record) bool { return r.Kind != api.RecCertificate })
	if len(certificates) == 0 || g.Intn(8) == 0 {
		certificates = x.r
	}
	c := api.Cert{Id: someOf(g, certificates).Id, Test: test.Id, Letter: uint8(between(g, 1, 3)), Minutes: someOf(g, list(1, 4, 5, 6, 10, 15, 16, 20, 21, 30, 60)), Day: x.someDay(g)}
	c.Rests, _ = trust.Rests(x.r, x.l, c.Day, c.Id)
	switch g.Intn(12) {
	case 0:
		c.Test++
	case 1:
		c.Rests = c.Rests[:len(c.Rests)/2]
	case 2:
		c.Day = x.someDay(g)
	case 3:
		c.Id = 31
	}
	return c
}

// P10.4, P10.8 and N10: what is judged is what the chapter's words tell of the layers below.
func TestJudgeByWords(t *testing.T) {
	g := rand.New(rand.NewSource(6))
	tests := []api.Test{exampleTest(), lasting(25), with(lasting(60), func(x *api.Test) { x.Clock = span(-9, 0) }), with(exampleTest(), func(x *api.Test) { x.Notes = x.Notes[4:] })}
	seen := map[string]int{}
	for range 6000 {
		x, test := someArchive(g), someOf(g, tests)
		c := x.claim(g, test)
		lie, known := x.lie(t, c, test), uint8(0)
		if lie == 0 {
			known = 1
			if c.Minutes <= classOf(t, test, c.Letter).Lo {
				known = 2
			}
		}
		k, l, e := card.Judge(c, test, x.r, x.l)
		if k != known || l != lie || e != api.OK {
			t.Fatal(k, l, e, known, lie, c, x)
		}
		seen[fmt.Sprint(known, lie)]++
	}
	for _, key := range []string{"2 0", "1 0", "0 1", "0 2", "0 3", "0 4", "0 5"} {
		if seen[key] < 100 {
			t.Error("too few", key, seen)
		}
	}
}

// P10.8: a furnace that left its limits, letters that withdraw, and another test are seen.
func TestWhatIsSeen(t *testing.T) {
	test := with(lasting(25), func(x *api.Test) { x.Id = 4 })
	c := certWith(func(c *api.Cert) { c.Minutes = 20 })
	judged{"true", nil, 2, 0}.expect(t, c, test, records(), letters())
	for minute := 1; minute <= 25; minute++ {
		hot := with(test, func(x *api.Test) { x.Run.Rows[minute-1].Degrees[0] = 106 })
		perhaps := with(hot, func(x *api.Test) { x.Run.Couples[0].Error = span(0, 1) })
		sure, open := judged{"hot", nil, 0, api.LieClass}, judged{"perhaps hot", nil, 1, 0}
		if minute > 20 {
			sure, open = judged{"hot later", nil, 2, 0}, judged{"perhaps hot later", nil, 2, 0}
		}
		sure.expect(t, c, hot, records(), letters())
		open.expect(t, c, perhaps, records(), letters())
	}
	// 6 hangs on 3 or on 5, and rests on 2, 4 and 5 on the day 10.
	for id, lie := range map[int]uint8{1: 0, 2: api.LieBroken, 3: 0, 4: api.LieBroken, 5: api.LieBroken, 6: api.LieBroken, 7: 0} {
		for day := 8; day <= 12; day++ {
			x := judged{fmt.Sprint(id, " withdrawn on ", day), nil, 2, 0}
			if day <= 10 && lie != 0 {
				x.known, x.lie = 0, lie
			}
			x.expect(t, c, test, records(), append(letters(), withdraw(9, day, id)))
		}
	}
	judged{"another way", nil, 0, api.LieRests}.expect(t, c, test, records(), append(letters(), restore(9, 10, 1)))
	judged{"another test", nil, 0, api.LieTest}.expect(t, c, with(test, func(x *api.Test) { x.Id = 3 }), records(), letters())
	judged{"a criterion that failed", nil, 0, api.LieClass}.expect(t, c, with(test, func(x *api.Test) { x.Notes = []api.Note{{At: 1200, Kind: api.CritCotton, Value: 1}} }), records(), letters())
	judged{"one that may have failed", nil, 1, 0}.expect(t, c, with(test, func(x *api.Test) { x.Notes = []api.Note{{At: 1201, Kind: api.CritCotton, Value: 1}} }), records(), letters())
}

// P10.5, P10.9: before the day on which it lapses the record holds on each day from Day on, on this day it does not.
func TestLapseDayByDay(t *testing.T) {
	g := rand.New(rand.NewSource(7))
	seen := map[string]int{}
	for range 3000 {
		x := someArchive(g)
		c := certWith(func(c *api.Cert) { c.Id, c.Day = someOf(g, x.r).Id, x.someDay(g) })
		day, e := card.Lapse(c, x.r, x.l)
		if e != api.OK || day != -1 && day < c.Day {
			t.Fatal(day, e, c, x)
		}
		last := day
		if day == -1 {
			last = api.MaxDay + 1
		} else if x.holds(t, day, c.Id) {
			t.Fatal("holds when it lapses", day, c, x)
		}
		for _, between := range x.daysUntil(c.Day, last) {
			if !x.holds(t, between, c.Id) {
				t.Fatal("lapses earlier", between, day, c, x)
			}
		}
		switch day {
		case -1:
			seen["never"]++
		case c.Day:
			seen["at once"]++
		default:
			seen["later"]++
		}
	}
	for _, key := range []string{"never", "at once", "later"} {
		if seen[key] < 300 {
			t.Error("too few", key, seen)
		}
	}
}

// daysUntil are the days from one to another one less 1, the first ones and the last ones of them, and those about which letters come.
func (x archive) daysUntil(first, last int) []int {
	var days []int
	for i := range 12 {
		days = append(days, first+i, last-1-i)
	}
	for _, l := range x.l {
		days = append(days, l.Day-1, l.Day, l.Day+1)
	}
	return slices.DeleteFunc(days, func(day int) bool { return day < first || day >= last })
}
