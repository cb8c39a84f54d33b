package card_test

import (
	"fmt"
	"math/rand"
	"slices"
	"strings"
	"testing"

	"cottonpad/api"
	"cottonpad/card"
)

func span(lo, hi int) api.Span { return api.Span{Lo: lo, Hi: hi} }

func list(numbers ...int) []int { return numbers }

// checkOf is the check of a line, by the words of the chapter.
func checkOf(said string) int {
	sum := 0
	for i := 1; i <= len(said); i++ {
		sum += i * int(said[i-1])
	}
	for sum >= 997 {
		sum -= 997
	}
	return sum
}

// line is a line with its check.
func line(said string) string { return fmt.Sprintf("%s %03d\n", said, checkOf(said)) }

// sealOf is the seal of lines.
func sealOf(said []string) int {
	sum := 0
	for i, s := range said {
		sum += checkOf(s) * (i + 1)
	}
	return sum % 997
}

// body is the text of lines without a last one.
func body(said ...string) string {
	all := ""
	for _, s := range said {
		all += line(s)
	}
	return all
}

func end(lines, seal int) string { return line(fmt.Sprintf("END %d %d", lines, seal)) }

// text is that of lines, with the last one.
func text(said ...string) string { return body(said...) + end(len(said), sealOf(said)) }

// say is a word with numbers.
func say(word string, numbers ...int) string {
	for _, n := range numbers {
		word += fmt.Sprintf(" %d", n)
	}
	return word
}

// saidOfLog are the lines of a log without their checks, by the chapter's table.
func saidOfLog(r api.Run, u api.Rules) []string {
	var curve []int
	for _, p := range r.Curve {
		curve = append(curve, p.Minute, p.Degree)
	}
	said := []string{say("RUN", r.Id, r.Gauge.Lo, r.Gauge.Hi), say("CURVE", curve...)}
	for _, c := range r.Couples {
		said = append(said, say("COUPLE", c.Id, c.Error.Lo, c.Error.Hi, c.Lag.Lo, c.Lag.Hi, c.Breaks))
	}
	said = append(said, say("RULES", u.Single, u.SingleFrom, u.Press.Lo, u.Press.Hi, u.PressFrom))
	for _, s := range u.Steps {
		said = append(said, say("STEP", s.From, s.Part))
	}
	for _, row := range r.Rows {
		said = append(said, say(say("ROW", row.Press), row.Degrees...))
	}
	return said
}

// saidOfCard are those of a card.
func saidOfCard(t api.Test) []string {
	first := say("TEST", t.Id, t.Run.Id, sealOf(saidOfLog(t.Run, t.Rules)), t.Clock.Lo, t.Clock.Hi, t.End)
	said := []string{say(first, t.Limits[:]...)}
	for _, n := range t.Notes {
		said = append(said, say("NOTE", n.At, int(n.Kind), n.Value, n.Off.Lo, n.Off.Hi))
	}
	return said
}

// saidOfCert are those of the text of a certificate.
func saidOfCert(c api.Cert) []string {
	said := []string{say("CERT", c.Id, c.Test, int(c.Letter), c.Minutes, c.Day)}
	for _, id := range c.Rests {
		said = append(said, say("REST", id))
	}
	return said
}

func logText(r api.Run, u api.Rules) string { return text(saidOfLog(r, u)...) }

func cardText(t api.Test) string { return text(saidOfCard(t)...) }

func certText(c api.Cert) string { return text(saidOfCert(c)...) }

// shortTest is a test of layer 1's example run, all of whose numbers are in other places.
func shortTest() api.Test {
	return api.Test{
		Id: 5,
		Run: api.Run{
			Id:      12,
			Curve:   []api.Point{{Minute: 0, Degree: 20}, {Minute: 5, Degree: 520}, {Minute: 10, Degree: 680}},
			Couples: []api.Couple{{Id: 1, Error: span(-5, 5)}, {Id: 4, Lag: span(0, 1), Breaks: 3}},
			Rows:    []api.Row{{Degrees: list(120, 130), Press: 10}, {Degrees: list(220, 210), Press: 10}, {Degrees: list(330, 400), Press: 25}},
			Gauge:   span(-2, 2),
		},
		Rules:  api.Rules{Steps: []api.Step{{From: 2, Part: 100}}, Single: 60, SingleFrom: 1, Press: span(0, 20), PressFrom: 3},
		Clock:  span(-3, 30),
		End:    170,
		Limits: [api.Criteria]int{100, 10, 6, 0, 180, 140},
		Notes: []api.Note{
			{At: 0, Kind: api.CritGap},
			{At: 60, Kind: api.CritPoint, Value: 175, Off: span(-10, 10)},
			{At: 170, Kind: api.CritCotton, Value: 1, Off: span(0, 1)},
		},
	}
}

// exampleTest is the test of layer 2's examples.
func exampleTest() api.Test {
	t := lasting(25)
	t.Id, t.Clock = 4, span(0, 30)
	t.Limits = [api.Criteria]int{100, 10, 6, 0, 180, 140}
	t.Run.Couples[0].Error = span(0, 5)
	t.Run.Rows[21].Degrees[0] = 110
	off := span(-10, 10)
	t.Notes = []api.Note{
		{At: 600, Kind: api.CritPoint, Value: 150, Off: off}, {At: 900, Kind: api.CritPoint, Value: 175, Off: off},
		{At: 1000, Kind: api.CritCotton}, {At: 1200, Kind: api.CritPoint, Value: 195, Off: off}, {At: 1260, Kind: api.CritCotton, Value: 1},
		{At: 1500, Kind: api.CritBend, Value: 60}, {At: 1500, Kind: api.CritSpeed, Value: 5}, {At: 1500, Kind: api.CritGap, Value: 4}, {At: 1500, Kind: api.CritMean, Value: 100},
	}
	return t
}

// lasting is a test of so many minutes, in which all held, by a clock that does not err, in a furnace that kept its limits.
func lasting(minutes int) api.Test {
	t := api.Test{
		Run: api.Run{
			Curve:   []api.Point{{Degree: 100}, {Minute: 60, Degree: 100}},
			Couples: []api.Couple{{Id: 1}},
		},
		Rules: api.Rules{Single: 5, SingleFrom: 1, Press: span(-100, 100), PressFrom: 1},
		End:   60 * minutes,
	}
	for range minutes {
		t.Run.Rows = append(t.Run.Rows, api.Row{Degrees: list(100)})
	}
	for i := range uint8(api.Criteria) {
		t.Notes = append(t.Notes, api.Note{At: t.End, Kind: i + 1})
	}
	return t
}

// exampleCert is the certificate of the chapter's examples.
func exampleCert() api.Cert {
	return api.Cert{Id: 6, Test: 4, Letter: api.LetterE, Minutes: 15, Day: 10, Rests: list(2, 4, 5, 6)}
}

// records and letters are those of layer 8's examples.
func records() []api.Record {
	return []api.Record{
		{Id: 1, Kind: api.RecFactory},
		{Id: 2, Kind: api.RecDrawing},
		{Id: 3, Kind: api.RecBatch, Ways: [][]int{{1, 2}}},
		{Id: 4, Kind: api.RecFactory},
		{Id: 5, Kind: api.RecBatch, Ways: [][]int{{2, 4}}},
		{Id: 6, Kind: api.RecCertificate, Ways: [][]int{{3}, {5}}},
		{Id: 7, Kind: api.RecCertificate, Ways: [][]int{{5, 6}}},
	}
}

func letters() []api.Letter {
	return []api.Letter{withdraw(1, 10, 1), restore(2, 20, 1), withdraw(3, 20, 4)}
}

func withdraw(id, day, about int) api.Letter {
	return api.Letter{Id: id, Day: day, About: about, Kind: api.LetterWithdraw}
}

func restore(id, day, about int) api.Letter {
	return api.Letter{Id: id, Day: day, About: about, Kind: api.LetterRestore}
}

// manyRests is a certificate that rests on so many records.
func manyRests(count int) api.Cert {
	c := exampleCert()
	c.Rests = nil
	for i := range count {
		c.Rests = append(c.Rests, 10*i)
	}
	return c
}

func copyTest(t api.Test) api.Test {
	t.Run.Curve = slices.Clone(t.Run.Curve)
	t.Run.Couples = slices.Clone(t.Run.Couples)
	t.Run.Rows = slices.Clone(t.Run.Rows)
	for i := range t.Run.Rows {
		t.Run.Rows[i].Degrees = slices.Clone(t.Run.Rows[i].Degrees)
	}
	t.Rules.Steps = slices.Clone(t.Rules.Steps)
	t.Notes = slices.Clone(t.Notes)
	return t
}

// with is a copy of a test with a change.
func with(t api.Test, change func(t *api.Test)) api.Test {
	t = copyTest(t)
	change(&t)
	return t
}

// certWith is the example's certificate with a change.
func certWith(change func(c *api.Cert)) api.Cert {
	c := exampleCert()
	change(&c)
	return c
}

// sameRun tells whether runs and rules are the same, an empty list being a nil one.
func sameRun(r api.Run, u api.Rules, s api.Run, v api.Rules) bool {
	return slices.Equal(saidOfLog(r, u), saidOfLog(s, v))
}

func sameTest(a, b api.Test) bool {
	return sameRun(a.Run, a.Rules, b.Run, b.Rules) && slices.Equal(saidOfCard(a), saidOfCard(b))
}

func sameCert(a, b api.Cert) bool { return slices.Equal(saidOfCert(a), saidOfCert(b)) }

// kind is one of the three kinds of texts: the lines of a right one without their checks, how it is read, and which words may stand behind a word ("" is the beginning), with how many numbers at least, and how many more of them each time (0: no more).
type kind struct {
	name    string
	said    []string
	read    func(text string) (line int, e api.Errno)
	follows map[string][]string
	least   map[string]int
	more    map[string]int
	bytes   map[string]int // the place of a number that is a byte
}

func logs() kind {
	t := shortTest()
	return kind{
		name:    "log",
		said:    saidOfLog(t.Run, t.Rules),
		read:    func(text string) (int, api.Errno) { _, _, line, e := card.ReadLog(text); return line, e },
		follows: map[string][]string{"": {"RUN"}, "RUN": {"CURVE"}, "CURVE": {"COUPLE", "RULES"}, "COUPLE": {"COUPLE", "RULES"}, "RULES": {"STEP", "ROW", "END"}, "STEP": {"STEP", "ROW", "END"}, "ROW": {"ROW", "END"}},
		least:   map[string]int{"RUN": 3, "CURVE": 2, "COUPLE": 6, "RULES": 5, "STEP": 2, "ROW": 1, "END": 2},
		more:    map[string]int{"CURVE": 2, "ROW": 1},
	}
}

func cards() kind {
	t := shortTest()
	log := logText(t.Run, t.Rules)
	return kind{
		name:    "card",
		said:    saidOfCard(t),
		read:    func(text string) (int, api.Errno) { _, line, e := card.ReadCard(text, log); return line, e },
		follows: map[string][]string{"": {"TEST"}, "TEST": {"NOTE", "END"}, "NOTE": {"NOTE", "END"}},
		least:   map[string]int{"TEST": 12, "NOTE": 5, "END": 2},
		bytes:   map[string]int{"NOTE": 1},
	}
}

func certs() kind {
	return kind{
		name:    "certificate",
		said:    saidOfCert(exampleCert()),
		read:    func(text string) (int, api.Errno) { _, line, e := card.ReadCert(text); return line, e },
		follows: map[string][]string{"": {"CERT"}, "CERT": {"REST", "END"}, "REST": {"REST", "END"}},
		least:   map[string]int{"CERT": 5, "REST": 1, "END": 2},
		bytes:   map[string]int{"CERT": 2},
	}
}

func kinds() []kind { return []kind{logs(), cards(), certs()} }

// expect checks the error of a text, and its line.
func (k kind) expect(t *testing.T, what any, text string, line int, want api.Errno) {
	t.Helper()
	if n, e := k.read(text); n != line || e != want {
		t.Errorf("%s, %v: line %d, %v; not line %d, %v, of\n%s", k.name, what, n, e, line, want, text)
	}
}

// with are the lines of a right text with one of them changed.
func (k kind) with(at int, said string) []string {
	all := slices.Clone(k.said)
	all[at] = said
	return all
}

// isRight tells whether a text is right but for its values.
func isRight(e api.Errno) bool {
	return e != api.ErrFull && e != api.ErrWrong && e != api.ErrLast && e != api.ErrLog
}

// words are all words of a kind of texts, in order of the alphabet.
func (k kind) words() []string {
	var words []string
	for word := range k.least {
		words = append(words, word)
	}
	slices.Sort(words)
	return words
}

// numbersOf are the numbers of a line without its check, as they are written.
func numbersOf(said string) []string { return strings.Split(said, " ")[1:] }

// withNumber is a line with one of its numbers written in another way.
func withNumber(said string, at int, number string) string {
	words := strings.Split(said, " ")
	words[at+1] = number
	return strings.Join(words, " ")
}

func between(g *rand.Rand, lo, hi int) int { return lo + g.Intn(hi-lo+1) }

func someOf[T any](g *rand.Rand, list []T) T { return list[g.Intn(len(list))] }

func someSpan(g *rand.Rand, lo, hi int) api.Span {
	a, b := between(g, lo, hi), between(g, lo, hi)
	return span(min(a, b), max(a, b))
}

// someIds are so many numbers from lo to hi, in increasing order, no one twice.
func someIds(g *rand.Rand, count, lo, hi int) []int {
	seen := map[int]bool{}
	var ids []int
	for len(ids) < count {
		if id := between(g, lo, hi); !seen[id] {
			seen[id] = true
			ids = append(ids, id)
		}
	}
	slices.Sort(ids)
	return ids
}

// someRun is any valid run of at most so many rows.
func someRun(g *rand.Rand, rows int) api.Run {
	r := api.Run{Id: g.Intn(api.MaxId + 1), Gauge: someSpan(g, -api.MaxGauge, api.MaxGauge)}
	minutes := someIds(g, between(g, 1, api.MaxPoints-1), 1, api.MaxMinute)
	degree := 0
	for _, minute := range append(list(0), minutes...) {
		degree = min(api.MaxDegree, degree+g.Intn(400))
		r.Curve = append(r.Curve, api.Point{Minute: minute, Degree: degree})
	}
	for _, id := range someIds(g, between(g, 1, api.MaxCouples), 0, api.MaxId) {
		r.Couples = append(r.Couples, api.Couple{Id: id, Error: someSpan(g, -api.MaxError, api.MaxError), Lag: someSpan(g, 0, api.MaxLate), Breaks: g.Intn(2) * g.Intn(api.MaxMinute+1)})
	}
	for range between(g, 1, min(rows, minutes[len(minutes)-1])) {
		row := api.Row{Press: between(g, -api.MaxPress, api.MaxPress)}
		for range r.Couples {
			row.Degrees = append(row.Degrees, g.Intn(api.MaxDegree+1))
		}
		r.Rows = append(r.Rows, row)
	}
	return r
}

// someRules are any valid rules.
func someRules(g *rand.Rand) api.Rules {
	u := api.Rules{Single: g.Intn(api.MaxDegree + 1), SingleFrom: between(g, 1, api.MaxMinute), Press: someSpan(g, -api.MaxPress, api.MaxPress), PressFrom: between(g, 1, api.MaxMinute)}
	for _, from := range someIds(g, g.Intn(api.MaxSteps+1), 1, api.MaxMinute) {
		u.Steps = append(u.Steps, api.Step{From: from, Part: g.Intn(api.Whole + 1)})
	}
	return u
}

// someTest is any test, most of all with notes that fit together, of at most so many rows.
func someTest(g *rand.Rand, rows int) api.Test {
	t := api.Test{Id: g.Intn(api.MaxId + 1), Run: someRun(g, rows), Rules: someRules(g), Clock: someSpan(g, -api.MaxClock, api.MaxClock)}
	t.End = between(g, 1, 60*len(t.Run.Rows))
	for i := range t.Limits {
		t.Limits[i] = g.Intn(api.MaxValue + 1)
	}
	at := 0
	for range g.Intn(12) {
		at = between(g, at, t.End)
		kind := uint8(between(g, 1, api.Criteria))
		t.Notes = append(t.Notes, api.Note{At: at, Kind: kind, Value: g.Intn(t.Limits[kind-1] + 1), Off: someSpan(g, 0, api.MaxOff)})
	}
	return t
}

// someCert is any valid certificate.
func someCert(g *rand.Rand) api.Cert {
	return api.Cert{
		Id: g.Intn(api.MaxId + 1), Test: g.Intn(api.MaxId + 1), Letter: uint8(between(g, api.LetterR, api.LetterI)), Minutes: between(g, 1, 60), Day: g.Intn(api.MaxDay + 1),
		Rests: someIds(g, g.Intn(api.MaxRests+1), 0, api.MaxId),
	}
}
