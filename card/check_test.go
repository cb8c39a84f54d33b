package card_test

import (
	"fmt"
	"math"
	"slices"
	"strings"
	"testing"

	"cottonpad/api"
	"cottonpad/card"
	"cottonpad/furnace"
)

// beyond are numbers that are far outside of all spans.
func beyond() []int {
	return []int{math.MinInt, math.MinInt + 1, math.MinInt32 - 1, math.MaxInt32 + 1, math.MaxInt - 1, math.MaxInt}
}

// spoiled are changes by which a test has an error, in the order in which the errors are checked.
func spoiled() []struct {
	change func(t *api.Test)
	e      api.Errno
} {
	return []struct {
		change func(t *api.Test)
		e      api.Errno
	}{
		{func(t *api.Test) { t.Run.Rows = nil }, api.ErrRun},
		{func(t *api.Test) { t.Run.Couples = nil }, api.ErrRun},
		{func(t *api.Test) { t.Run.Curve[0].Minute = 1 }, api.ErrRun},
		{func(t *api.Test) { t.Run.Rows[0].Degrees = nil }, api.ErrRun},
		{func(t *api.Test) { t.Rules.Single = -1 }, api.ErrRules},
		{func(t *api.Test) { t.Rules.Steps = slices.Repeat(t.Rules.Steps, 2) }, api.ErrRules},
		{func(t *api.Test) { t.Id = -1 }, api.ErrTest},
		{func(t *api.Test) { t.End = 0 }, api.ErrTest},
		{func(t *api.Test) { t.Notes[0].Kind = 0 }, api.ErrTest},
		{func(t *api.Test) { t.Notes[0].Kind = 255 }, api.ErrTest},
		{func(t *api.Test) { t.Notes = slices.Repeat(t.Notes[:1], 61) }, api.ErrTest},
		{func(t *api.Test) {
			t.Notes = []api.Note{{At: 1, Kind: 1, Value: 9999}, {At: 1, Kind: 1, Value: 0}}
		}, api.ErrTwist},
	}
}

// P10.1, P10.3 and P10.4: what is wrong with a test, its run or its rules, and of two errors the first one.
func TestTestErrors(t *testing.T) {
	for i, a := range spoiled() {
		for j, b := range spoiled()[i:] {
			x := with(with(shortTest(), b.change), a.change)
			if s, e := card.WriteCard(x); s != "" || e != a.e {
				t.Error(i, j, "WriteCard", s, e)
			}
			// Whatever is wrong with the other arguments, too.
			if known, lie, e := card.Judge(api.Cert{}, x, []api.Record{{}}, nil); known != 0 || lie != 0 || e != a.e {
				t.Error(i, j, "Judge", known, lie, e)
			}
			want := a.e
			if a.e != api.ErrRun && a.e != api.ErrRules {
				want = api.OK
			}
			s, e := card.WriteLog(x.Run, x.Rules)
			if e != want || e != api.OK && s != "" {
				t.Error(i, j, "WriteLog", s, e)
			}
			if r, u, line, e := card.ReadLog(logText(x.Run, x.Rules)); e != want || line != 0 || e != api.OK && !sameRun(r, u, api.Run{}, api.Rules{}) {
				t.Error(i, j, "ReadLog", r, u, line, e)
			}
			want = a.e
			if a.e == api.ErrRun || a.e == api.ErrRules {
				want = api.ErrLog
			}
			if y, line, e := card.ReadCard(cardText(x), logText(x.Run, x.Rules)); e != want || line != 0 || !sameTest(y, api.Test{}) {
				t.Error(i, j, "ReadCard", y, line, e)
			}
		}
	}
}

// P10.1 to P10.5 and R5: each number of a certificate at its bounds, beyond them, and far beyond them.
func TestCertBounds(t *testing.T) {
	for _, x := range []struct {
		name   string
		field  func(c *api.Cert) *int
		lo, hi int
	}{
		{"id", func(c *api.Cert) *int { return &c.Id }, 0, 9999},
		{"test", func(c *api.Cert) *int { return &c.Test }, 0, 9999},
		{"minutes", func(c *api.Cert) *int { return &c.Minutes }, 1, 60},
		{"day", func(c *api.Cert) *int { return &c.Day }, 0, 100000},
		{"first of rests", func(c *api.Cert) *int { return &c.Rests[0] }, 0, 3},
		{"second of rests", func(c *api.Cert) *int { return &c.Rests[1] }, 3, 4},
		{"last of rests", func(c *api.Cert) *int { return &c.Rests[3] }, 6, 9999},
	} {
		for _, n := range append(beyond(), x.lo-1, x.lo, x.hi, x.hi+1) {
			c := certWith(func(c *api.Cert) { *x.field(c) = n })
			want := api.OK
			if n < x.lo || n > x.hi {
				want = api.ErrCert
			}
			expectCert(t, fmt.Sprint(x.name, " ", n), c, want)
		}
	}
	for letter := range 256 {
		want := api.ErrCert
		if letter >= 1 && letter <= 3 {
			want = api.OK
		}
		expectCert(t, fmt.Sprint("letter ", letter), certWith(func(c *api.Cert) { c.Letter = uint8(letter) }), want)
	}
}

// P10.1 to P10.5: how many Rests there may be, and in which order.
func TestRests(t *testing.T) {
	for i, x := range []struct {
		rests []int
		e     api.Errno
	}{
		{nil, api.OK}, {list(), api.OK}, {list(0), api.OK}, {list(9999), api.OK}, {list(0, 9999), api.OK},
		{manyRests(api.MaxRests).Rests, api.OK}, {manyRests(api.MaxRests + 1).Rests, api.ErrCert}, {manyRests(100).Rests, api.ErrCert},
		{list(2, 2), api.ErrCert}, {list(1, 2, 3, 3), api.ErrCert}, {list(3, 2), api.ErrCert}, {list(1, 2, 5, 4), api.ErrCert}, {list(2, 1, 3), api.ErrCert}, {list(1, 3, 1), api.ErrCert},
		{list(-1), api.ErrCert}, {list(-1, 2), api.ErrCert}, {list(10000), api.ErrCert}, {list(1, 10000), api.ErrCert},
	} {
		expectCert(t, i, certWith(func(c *api.Cert) { c.Rests = x.rests }), x.e)
	}
	expectCert(t, "zero", api.Cert{}, api.ErrCert)
}

// expectCert checks the error of all functions with a certificate.
func expectCert(t *testing.T, name any, c api.Cert, want api.Errno) {
	t.Helper()
	s, e := card.WriteCert(c)
	if e != want || e == api.OK && s != certText(c) || e != api.OK && s != "" {
		t.Error(name, "WriteCert", s, e)
	}
	if known, lie, e := card.Judge(c, exampleTest(), records(), letters()); e != want || e != api.OK && (known != 0 || lie != 0) {
		t.Error(name, "Judge", known, lie, e)
	}
	all := []api.Record{{Id: c.Id, Kind: api.RecFactory}}
	if want != api.OK {
		all = records()
	}
	if day, e := card.Lapse(c, all, nil); e != want || e == api.OK && day != -1 || e != api.OK && day != 0 {
		t.Error(name, "Lapse", day, e)
	}
	// A number that no line may have is a wrong line; there is none in what is compared here.
	if !slices.ContainsFunc(append(list(c.Id, c.Test, c.Minutes, c.Day), c.Rests...), func(n int) bool { return n < -1e9 || n > 1e9 }) {
		if d, line, e := card.ReadCert(certText(c)); e != want || line != 0 || e == api.OK && !sameCert(c, d) || e != api.OK && !sameCert(d, api.Cert{}) {
			t.Error(name, "ReadCert", d, line, e)
		}
	}
}

// P10.4 and P10.5: errors of records and letters, and in which order they are checked.
func TestJudgeErrors(t *testing.T) {
	wrong, twice := []api.Record{{Id: 1}}, []api.Letter{withdraw(1, 1, 1), withdraw(1, 1, 1)}
	for i, x := range []struct {
		c           api.Cert
		r           []api.Record
		l           []api.Letter
		judge, from api.Errno
	}{
		{exampleCert(), wrong, nil, api.ErrRecords, api.ErrRecords},
		{api.Cert{}, wrong, twice, api.ErrRecords, api.ErrRecords},
		{exampleCert(), records(), twice, api.ErrLetters, api.ErrLetters},
		{api.Cert{}, records(), twice, api.ErrLetters, api.ErrLetters},
		{api.Cert{}, nil, twice, api.ErrLetters, api.ErrLetters},
		{api.Cert{}, records(), letters(), api.ErrCert, api.ErrCert},
		{api.Cert{}, nil, nil, api.ErrCert, api.ErrCert},
		{certWith(func(c *api.Cert) { c.Id = 8 }), records(), letters(), api.OK, api.ErrNone},
		{exampleCert(), nil, nil, api.OK, api.ErrNone},
		{certWith(func(c *api.Cert) { c.Id = 10000 }), records(), letters(), api.ErrCert, api.ErrCert},
		{exampleCert(), records(), letters(), api.OK, api.OK},
	} {
		if known, lie, e := card.Judge(x.c, exampleTest(), x.r, x.l); e != x.judge || e != api.OK && (known != 0 || lie != 0) {
			t.Error(i, "Judge", known, lie, e)
		}
		if day, e := card.Lapse(x.c, x.r, x.l); e != x.from || e != api.OK && day != 0 {
			t.Error(i, "Lapse", day, e)
		}
	}
}

// filler is a line that may stand at the end of a kind of texts, of more bytes with more digits.
func (k kind) filler(digits int) string {
	number := "1" + strings.Repeat("0", digits)
	switch k.name {
	case "log":
		return "ROW " + number
	case "card":
		return "NOTE 1 1 1 1 " + number
	}
	return "REST " + number
}

// long is a text of so many bytes, in which no line is wrong.
func (k kind) long(t *testing.T, bytes int) string {
	for lines := range 400 {
		said := slices.Concat(k.said, slices.Repeat([]string{k.filler(0)}, lines))
		for digits := range 10 {
			if s := text(append(said, k.filler(digits))...); len(s) == bytes {
				return s
			}
		}
	}
	t.Fatal("there is no such text", k.name, bytes)
	return ""
}

// P10.2 and P10.3: texts of MaxFile bytes, and of one more, whatever else is wrong with them.
func TestLongTexts(t *testing.T) {
	for _, k := range kinds() {
		fits, full := k.long(t, 3000), k.long(t, 3001)
		if line, e := k.read(fits); line != 0 || !isRight(e) || e == api.OK {
			t.Error(k.name, line, e)
		}
		k.expect(t, "full", full, 0, api.ErrFull)
		k.expect(t, "full and wrong", "?"+full[1:], 0, api.ErrFull)
		k.expect(t, "wrong", "?"+fits[1:], 1, api.ErrWrong)
		k.expect(t, "full of nothing", strings.Repeat("\n", 3001), 0, api.ErrFull)
		k.expect(t, "nothing", strings.Repeat("\n", 3000), 1, api.ErrWrong)
		k.expect(t, "far too long", strings.Repeat("7", 1000000), 0, api.ErrFull)
	}
}

// longRun is a run whose log has so many bytes.
func longRun(t *testing.T, u api.Rules, bytes int) api.Run {
	r := api.Run{Curve: []api.Point{{}, {Minute: 60}}}
	for i := range 8 {
		r.Couples = append(r.Couples, api.Couple{Id: i})
	}
	for range 60 {
		r.Rows = append(r.Rows, api.Row{Degrees: slices.Repeat(list(100), 8), Press: 10})
	}
	for i := range 480 {
		r.Rows[i/8].Degrees[i%8] = 1000
		// The number of digits of END's seal is whatever it is.
		if len(logText(r, u)) == bytes {
			return r
		}
	}
	t.Fatal("there is no such run", bytes)
	return r
}

// P10.1: a log of MaxFile bytes, and of one more, which is told after what is wrong with the run, or the rules.
func TestLongLogs(t *testing.T) {
	x := shortTest()
	fits, full := longRun(t, x.Rules, 3000), longRun(t, x.Rules, 3001)
	s, e := card.WriteLog(fits, x.Rules)
	if len(s) != 3000 || s != logText(fits, x.Rules) || e != api.OK {
		t.Error(len(s), e)
	}
	if r, u, line, e := card.ReadLog(s); !sameRun(r, u, fits, x.Rules) || line != 0 || e != api.OK {
		t.Error(line, e)
	}
	if s, e := card.WriteLog(full, x.Rules); s != "" || e != api.ErrFull {
		t.Error(len(s), e)
	}
	if r, u, line, e := card.ReadLog(logText(full, x.Rules)); !sameRun(r, u, api.Run{}, api.Rules{}) || line != 0 || e != api.ErrFull {
		t.Error(line, e)
	}
	full.Id = -1
	if s, e := card.WriteLog(full, x.Rules); s != "" || e != api.ErrRun {
		t.Error(len(s), e)
	}
	full.Id = 0
	x.Rules.Single = -1
	if s, e := card.WriteLog(full, x.Rules); s != "" || e != api.ErrRules {
		t.Error(len(s), e)
	}
}

// P10.1 and P10.3: the card of a test whose log is too long is short enough, but such a log is not read.
func TestCardOfLongLog(t *testing.T) {
	x := shortTest()
	x.Run = longRun(t, x.Rules, 3001)
	file, e := card.WriteCard(x)
	if file != cardText(x) || e != api.OK {
		t.Error(file, e)
	}
	if y, line, e := card.ReadCard(file, logText(x.Run, x.Rules)); !sameTest(y, api.Test{}) || line != 0 || e != api.ErrLog {
		t.Error(y, line, e)
	}
	// No card of a valid test is too long.
	x.Run = longRun(t, x.Rules, 3000)
	x.Id, x.Run.Id, x.Clock, x.End, x.Limits = 9999, 9999, span(-120, -120), 3600, [api.Criteria]int{9999, 9999, 9999, 9999, 9999, 10000}
	x.Notes = slices.Repeat([]api.Note{{At: 3600, Kind: 6, Value: 10000, Off: span(-200, -200)}}, 60)
	if file, e := card.WriteCard(x); file != cardText(x) || len(file) > 3000 || e != api.OK {
		t.Error(len(file), e)
	}
}

// P10.2 and P10.3: a line of MaxRow bytes, and of one more.
func TestLongLines(t *testing.T) {
	k := logs()
	for bytes := 298; bytes <= 303; bytes++ {
		last := " " + strings.Repeat("3", bytes-297)
		for at, said := range map[int]string{1: "CURVE" + strings.Repeat(" 1", 143) + last, 8: "ROW" + strings.Repeat(" 1", 144) + last} {
			if len(line(said)) != bytes {
				t.Fatal("not so many bytes", said)
			}
			want, number := api.ErrRun, 0
			if bytes > 300 {
				want, number = api.ErrWrong, at+1
			}
			k.expect(t, bytes, text(k.with(at, said)...), number, want)
		}
	}
}

// P10.3: which error of a card comes first, and what belongs to its log.
func TestCardAndLog(t *testing.T) {
	x := shortTest()
	other := with(x, func(x *api.Test) { x.Run.Id = 13 })
	hotter := with(x, func(x *api.Test) { x.Run.Rows[0].Degrees[0]++ })
	twisted := with(x, func(x *api.Test) { x.Id = -1 })
	k := cards()
	log := exampleLog
	wrongEnd := body(k.said...) + end(4, 0)
	for i, c := range []struct {
		file, log string
		line      int
		e         api.Errno
	}{
		{exampleCard, log, 0, api.OK},
		{exampleCard, "", 0, api.ErrLog},
		{exampleCard, exampleCard, 0, api.ErrLog},
		{exampleCard, log + "\n", 0, api.ErrLog},
		{exampleCard, log[1:], 0, api.ErrLog},
		{exampleCard, log[:len(log)-1], 0, api.ErrLog},
		{exampleCard, body(logs().said...) + end(9, 455), 0, api.ErrLog},
		{exampleCard, logs().long(t, 3001), 0, api.ErrLog},
		{exampleCard, logs().long(t, 3000), 0, api.ErrLog},
		{exampleCard, logText(with(x, func(x *api.Test) { x.Run.Rows = nil }).Run, x.Rules), 0, api.ErrLog},
		{exampleCard, logText(x.Run, api.Rules{}), 0, api.ErrLog},
		// A log that is wrong comes before all that is wrong with the card.
		{k.long(t, 3001), "", 0, api.ErrLog}, {"", "", 0, api.ErrLog}, {wrongEnd, "", 0, api.ErrLog}, {cardText(twisted), "", 0, api.ErrLog},
		// What is wrong with the card comes before what does not match.
		{k.long(t, 3001), logText(other.Run, other.Rules), 0, api.ErrFull}, {"", logText(other.Run, other.Rules), 1, api.ErrWrong}, {exampleCard + " ", logText(other.Run, other.Rules), 6, api.ErrWrong}, {wrongEnd, logText(other.Run, other.Rules), 5, api.ErrLast},
		// Another Id alone, another seal alone, and both.
		{exampleCard, logText(other.Run, other.Rules), 1, api.ErrMatch}, {exampleCard, logText(hotter.Run, hotter.Rules), 1, api.ErrMatch},
		{text(k.with(0, withNumber(k.said[0], 1, "11"))...), log, 1, api.ErrMatch}, {text(k.with(0, withNumber(k.said[0], 1, "-12"))...), log, 1, api.ErrMatch}, {text(k.with(0, withNumber(k.said[0], 1, "1000000000"))...), log, 1, api.ErrMatch},
		{text(k.with(0, withNumber(k.said[0], 2, "455"))...), log, 1, api.ErrMatch}, {text(k.with(0, withNumber(k.said[0], 2, "1453"))...), log, 1, api.ErrMatch}, {text(k.with(0, withNumber(k.said[0], 2, "-541"))...), log, 1, api.ErrMatch},
		{text(k.with(0, withNumber(withNumber(k.said[0], 1, "11"), 2, "0"))...), log, 1, api.ErrMatch},
		// What does not match comes before what is wrong with the test.
		{cardText(twisted), logText(other.Run, other.Rules), 1, api.ErrMatch}, {cardText(twisted), log, 0, api.ErrTest},
		{cardText(other), logText(other.Run, other.Rules), 0, api.OK}, {cardText(hotter), logText(hotter.Run, hotter.Rules), 0, api.OK},
	} {
		y, line, e := card.ReadCard(c.file, c.log)
		if line != c.line || e != c.e || e != api.OK && !sameTest(y, api.Test{}) {
			t.Error(i, y, line, e)
		}
	}
}

// P10.2: runs without couples or rows, and curves of one point, of the fewest, of the most, and of too many.
func TestReadRuns(t *testing.T) {
	curve := func(points int) []string {
		said := "CURVE"
		for i := range points {
			said = say(said, 60*i, 10*i)
		}
		return logs().with(1, said)
	}
	for i, x := range []struct {
		said []string
		e    api.Errno
	}{
		{curve(1), api.ErrRun}, {curve(2), api.OK}, {curve(10), api.OK}, {curve(11), api.ErrRun},
		{[]string{"RUN 1 0 0", "CURVE 0 0 9 9", "RULES 0 1 0 0 1"}, api.ErrRun},
		{[]string{"RUN 1 0 0", "CURVE 0 0 9 9", "COUPLE 1 0 0 0 0 0", "RULES 0 1 0 0 1"}, api.ErrRun},
		{[]string{"RUN 1 0 0", "CURVE 0 0 9 9", "RULES 0 1 0 0 1", "ROW 1"}, api.ErrRun},
		{[]string{"RUN 1 0 0", "CURVE 0 0 9 9", "COUPLE 1 0 0 0 0 0", "RULES 0 1 0 0 1", "ROW 1"}, api.ErrRun},
		{[]string{"RUN 1 0 0", "CURVE 0 0 9 9", "COUPLE 1 0 0 0 0 0", "RULES 0 1 0 0 1", "ROW 1 2 3"}, api.ErrRun},
		{[]string{"RUN 1 0 0", "CURVE 0 0 9 9", "COUPLE 1 0 0 0 0 0", "RULES 0 1 0 0 1", "ROW 1 2"}, api.OK},
		{[]string{"RUN 1 0 0", "CURVE 0 0 9 9", "COUPLE 1 0 0 0 0 0", "RULES 0 1 0 0 0", "ROW 1 2"}, api.ErrRules},
		{[]string{"RUN 1 0 0", "CURVE 0 0 9 9", "RULES 0 1 0 0 0"}, api.ErrRun},
		// The furnace's limits are checked of what was read, not of its words.
		{[]string{"RUN 1 0 -1", "CURVE 0 0 9 9", "COUPLE 1 0 0 0 0 0", "RULES 0 1 0 0 1", "ROW 1 2"}, api.ErrRun},
	} {
		logs().expect(t, i, text(x.said...), 0, x.e)
	}
	r, u, _, _ := card.ReadLog(text(curve(10)...))
	if e := furnace.Check(r, u); len(r.Curve) != 10 || e != api.OK {
		t.Error(r, e)
	}
}
