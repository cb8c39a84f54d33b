package class_test

import (
	"math/rand"
	"slices"
	"testing"

	"cottonpad/api"
	"cottonpad/class"
	"cottonpad/furnace"
)

// forever is the second of a failure that does not come.
const forever = 1 << 40

// truth is what may be true of a test: in which second by the clock each criterion fails, and by how much the clock is fast.
type truth struct {
	fails [api.Criteria]int
	clock int
}

// shown returns whether a note shows that its criterion holds, and that it has failed, by all values that may be true.
func shown(n api.Note, limit int) (holds, failed bool) {
	holds, failed = true, true
	for off := n.Off.Lo; off <= n.Off.Hi; off++ {
		if n.Value-off > limit {
			holds = false
		} else {
			failed = false
		}
	}
	return holds, failed
}

// agrees returns whether a second of failure, or forever, agrees with all notes.
func agrees(x api.Test, criterion, second int) bool {
	for _, n := range x.Notes {
		holds, failed := shown(n, x.Limits[n.Kind-1])
		if int(n.Kind) != criterion {
			continue
		}
		if holds && n.At >= second || failed && n.At < second {
			return false
		}
	}
	return true
}

// secondsOf returns all seconds by the clock in which a criterion may have failed, forever among them.
func secondsOf(x api.Test, criterion int) []int {
	var list []int
	for second := 0; second <= x.End; second++ {
		if agrees(x, criterion, second) {
			list = append(list, second)
		}
	}
	if agrees(x, criterion, forever) {
		list = append(list, forever)
	}
	return list
}

// truths calls for all truths that some seconds of criteria leave.
func truths(x api.Test, seconds [api.Criteria][]int, each func(truth)) {
	var now truth
	var choose func(i int)
	choose = func(i int) {
		if i < api.Criteria {
			for _, second := range seconds[i] {
				now.fails[i] = second
				choose(i + 1)
			}
			return
		}
		for now.clock = x.Clock.Lo; now.clock <= x.Clock.Hi; now.clock++ {
			each(now)
		}
	}
	choose(0)
}

// sum is what all truths tell of a failure.
type sum struct {
	held, fails bool
	at          api.Span
}

func (s *sum) add(second, clock int) {
	if second == forever {
		s.held = true
		return
	}
	truly := second - clock
	if !s.fails {
		s.at = span(truly, truly)
	}
	s.fails = true
	s.at = span(min(s.at.Lo, truly), max(s.at.Hi, truly))
}

func (s *sum) told() api.Fail {
	switch {
	case s.held && s.fails:
		return api.Fail{Held: api.KnownOpen, At: s.at}
	case s.held:
		return api.Fail{Held: api.KnownYes}
	}
	return api.Fail{Held: api.KnownNo, At: s.at}
}

// firstOfLetter returns in which second by the clock a letter fails in a truth.
func (y truth) firstOfLetter(letter int) int { return slices.Min(y.fails[:2*letter]) }

// tiny is a valid test of a few seconds, of which all truths can be gone through.
func tiny(g *rand.Rand) api.Test {
	for {
		x := api.Test{Run: furnaceOf(1), Rules: strict(), Clock: someSpan(g, -2, 2), End: between(g, 1, 3)}
		for i := range x.Limits {
			x.Limits[i] = between(g, 0, 4)
		}
		for range g.Intn(9) {
			x.Notes = append(x.Notes, api.Note{At: between(g, 0, x.End), Kind: uint8(between(g, 1, 6)), Value: between(g, 0, 8), Off: someSpan(g, -2, 2)})
		}
		slices.SortFunc(x.Notes, func(a, b api.Note) int { return a.At - b.At })
		if class.Check(x) == api.OK {
			return x
		}
	}
}

// P2.1, P2.2 and P2.5: a failure is told by all truths there are.
func TestAllTruths(t *testing.T) {
	g := rand.New(rand.NewSource(1))
	for range 400 {
		x := tiny(g)
		var seconds [api.Criteria][]int
		for i := range seconds {
			seconds[i] = secondsOf(x, i+1)
		}
		var each [api.Criteria]sum
		var letters [4]sum
		truths(x, seconds, func(y truth) {
			for i, second := range y.fails {
				each[i].add(second, y.clock)
			}
			for letter := 1; letter <= 3; letter++ {
				letters[letter].add(y.firstOfLetter(letter), y.clock)
			}
		})
		for i := range each {
			if f := failsOf(t, x, uint8(i+1)); f != each[i].told() {
				t.Fatal(i+1, f, each[i].told(), x)
			}
		}
		for letter := 1; letter <= 3; letter++ {
			if f := firstOf(t, x, uint8(letter)); f != letters[letter].told() {
				t.Fatal(letter, f, letters[letter].told(), x)
			}
		}
	}
}

// P2.1: notes contradict each other just if they leave no truth.
func TestTwistsLeaveNothing(t *testing.T) {
	g := rand.New(rand.NewSource(2))
	var count [2]int
	for range 4000 {
		x := tiny(g)
		n := api.Note{At: between(g, 0, x.End), Kind: uint8(between(g, 1, 6)), Value: between(g, 0, 8), Off: someSpan(g, -2, 2)}
		x.Notes = slices.Insert(x.Notes, place(x.Notes, n.At), n)
		want := api.OK
		if len(secondsOf(x, int(n.Kind))) == 0 {
			want = api.ErrTwist
			count[1]++
		} else {
			count[0]++
		}
		if e := class.Check(x); e != want {
			t.Fatal(e, want, x)
		}
	}
	if min(count[0], count[1]) < 50 {
		t.Error("too few of one kind", count)
	}
}

// place returns where a note of a second comes in a list.
func place(notes []api.Note, at int) int {
	i := 0
	for i < len(notes) && notes[i].At <= at {
		i++
	}
	return i
}

// ends returns the first and the last one of some seconds, one between them, and forever if it is one.
func ends(seconds []int) []int {
	list := []int{seconds[0]}
	for _, second := range []int{seconds[len(seconds)/2], seconds[max(0, len(seconds)-2)], seconds[len(seconds)-1]} {
		if !slices.Contains(list, second) {
			list = append(list, second)
		}
	}
	return list
}

// hasClass returns whether a test has a class for a letter in a truth, in a furnace that keeps its limits just if it is told so.
func hasClass(x api.Test, y truth, letter, minutes int, kept bool) bool {
	if first := y.firstOfLetter(letter); first != forever && first-y.clock <= 60*minutes {
		return false
	}
	return x.End-y.clock >= 60*minutes && kept
}

// truthsOfClasses returns the greatest class that a test has in each truth, with a furnace as bad as it may be, and the greatest one in some truth, with one as good as it may be.
func truthsOfClasses(x api.Test, letter int) (lo, hi int) {
	var seconds [api.Criteria][]int
	for i := range seconds {
		seconds[i] = []int{forever}
		if i < 2*letter {
			seconds[i] = ends(secondsOf(x, i+1))
		}
	}
	for _, minutes := range []int{5, 10, 15, 20, 30, 45, 60} {
		if minutes > len(x.Run.Rows) {
			break
		}
		known, _, _ := furnace.Kept(x.Run, x.Rules, minutes)
		all, some := true, false
		truths(x, seconds, func(y truth) {
			all = all && hasClass(x, y, letter, minutes, known == api.KnownYes)
			some = some || hasClass(x, y, letter, minutes, known != api.KnownNo)
		})
		if all {
			lo = minutes
		}
		if some {
			hi = minutes
		}
	}
	return lo, hi
}

// P2.3, P2.5 and N2: a class by all truths in which something ends.
func TestClassByTruths(t *testing.T) {
	g := rand.New(rand.NewSource(3))
	los, his, wide := map[int]bool{}, map[int]bool{}, 0
	for range 700 {
		x := someTest(g)
		if g.Intn(2) == 0 {
			x = kindTest(g)
		}
		x.Clock.Hi = min(x.Clock.Hi, x.Clock.Lo+3)
		letter := between(g, 1, 3)
		lo, hi := truthsOfClasses(x, letter)
		if s := classOf(t, x, uint8(letter)); s != span(lo, hi) {
			t.Fatal(letter, s, lo, hi, x)
		}
		los[lo], his[hi] = true, true
		if lo != hi {
			wide++
		}
	}
	if len(los) != 8 || len(his) != 8 || wide < 100 {
		t.Error("not all classes came", los, his, wide)
	}
}

// kindTest is a test in which the most holds.
func kindTest(g *rand.Rand) api.Test {
	rows := between(g, 1, 60)
	x := lasted(furnaceOf(rows))
	if g.Intn(2) == 0 {
		x.Run = someRun(g, rows)
	}
	x.Clock = someSpan(g, -100, 100)
	if g.Intn(2) == 0 {
		i := g.Intn(len(x.Notes))
		n := x.Notes[i]
		n.At = between(g, 0, x.End)
		x.Notes = slices.Insert(slices.Delete(x.Notes, i, i+1), 0, n)
		if g.Intn(2) == 0 {
			x.Notes = append(x.Notes, note(x.End, n.Kind, 1))
			if n.At == x.End {
				x.Notes = x.Notes[:len(x.Notes)-1]
			}
		}
	}
	return x
}

// P2.5 and N2: a class that is printed holds with any temperatures and pressures that may be true.
func TestPrintedHolds(t *testing.T) {
	g := rand.New(rand.NewSource(4))
	printed := 0
	for range 600 {
		x := kindTest(g)
		x.Run.Couples = append(x.Run.Couples, api.Couple{Id: 2, Error: someSpan(g, -1, 1), Lag: span(0, g.Intn(3))})
		for i := range x.Run.Rows {
			x.Run.Rows[i].Degrees = append(x.Run.Rows[i].Degrees, 100+between(g, -1, 1))
		}
		x.Rules.Steps = []api.Step{{From: between(g, 1, 20), Part: between(g, 10, 30)}}
		minutes := classOf(t, x, api.LetterI).Lo
		if minutes > 0 {
			printed++
		}
		for range 20 {
			if minute := firstBroken(g, x); minute <= minutes {
				t.Fatal(minute, minutes, x)
			}
		}
	}
	if printed < 100 {
		t.Error("too few classes", printed)
	}
}

// firstBroken returns the first minute in which a limit is broken with some temperatures and pressures that may be true. No couple breaks, and the curve is 100 throughout.
func firstBroken(g *rand.Rand, x api.Test) int {
	pick := func(lo, hi int) int { return []int{lo, hi, between(g, lo, hi)}[g.Intn(3)] }
	rows, total := x.Run.Rows, 0
	for minute := 1; minute <= len(rows); minute++ {
		for i, c := range x.Run.Couples {
			read := rows[min(len(rows), minute+pick(c.Lag.Lo, c.Lag.Hi))-1].Degrees[i]
			degree := read - pick(c.Error.Lo, c.Error.Hi)
			total += degree - 100
			if degree > 100+x.Rules.Single || degree < 100-x.Rules.Single {
				return minute
			}
		}
		// Two couples: the sum of means is half of their sum.
		step := x.Rules.Steps[0]
		if off := max(total, -total) * 1000 / 2; minute >= step.From && off > step.Part*100*minute {
			return minute
		}
		press := rows[minute-1].Press - pick(x.Run.Gauge.Lo, x.Run.Gauge.Hi)
		if press < x.Rules.Press.Lo || press > x.Rules.Press.Hi {
			return minute
		}
	}
	return len(rows) + 1
}

// P2.6: no class is above the last minute that counts, and all until it are printed.
func TestSpoiled(t *testing.T) {
	for rows := 1; rows <= 60; rows++ {
		for _, spoiled := range []int{0, 1, 5, 6, 29, 30, 31, 45, 60, rows} {
			for _, run := range []api.Run{furnaceOf(rows, spoiled), doubtful(furnaceOf(rows, spoiled))} {
				x := lasted(run)
				counts, e := furnace.Counts(run, x.Rules)
				if e != api.OK {
					t.Fatal(e)
				}
				want := 0
				for _, minutes := range []int{5, 10, 15, 20, 30, 45, 60} {
					if minutes <= counts {
						want = minutes
					}
				}
				for letter := uint8(1); letter <= 3; letter++ {
					if s := classOf(t, x, letter); s.Lo != want {
						t.Fatal(rows, spoiled, letter, s, want)
					}
				}
			}
		}
	}
}

// wider returns whether a failure is known less well than another one.
func wider(a, b api.Fail) bool {
	if b.Held != api.KnownOpen && a.Held != b.Held {
		return true
	}
	return a.Held != api.KnownYes && (a.At.Lo < b.At.Lo || a.At.Hi > b.At.Hi)
}

// P2.7: with a note more no span is wider, and no class that is printed is lower.
func TestNoteMore(t *testing.T) {
	g := rand.New(rand.NewSource(5))
	higher := 0
	for range 3000 {
		x := someTest(g)
		n := api.Note{At: between(g, 0, x.End), Kind: uint8(between(g, 1, 6)), Value: between(g, 0, 90), Off: someSpan(g, -3, 3)}
		if g.Intn(2) == 0 {
			n.At = x.End
		}
		y := copyTest(x)
		y.Notes = slices.Insert(y.Notes, place(y.Notes, n.At), n)
		if class.Check(y) != api.OK {
			continue
		}
		for i := range uint8(api.Criteria) {
			if a, b := failsOf(t, y, i+1), failsOf(t, x, i+1); wider(a, b) {
				t.Fatal(i+1, a, b, n, x)
			}
		}
		for letter := uint8(1); letter <= 3; letter++ {
			if a, b := firstOf(t, y, letter), firstOf(t, x, letter); wider(a, b) {
				t.Fatal(letter, a, b, n, x)
			}
			a, b := classOf(t, y, letter), classOf(t, x, letter)
			if a.Lo < b.Lo || a.Hi > b.Hi {
				t.Fatal(letter, a, b, n, x)
			}
			if a.Lo > b.Lo {
				higher++
			}
		}
	}
	if higher == 0 {
		t.Error("no class was higher")
	}
}

// widened returns a test one of whose errors is wider.
func widened(g *rand.Rand, x api.Test) api.Test {
	x = copyTest(x)
	more := func(s api.Span, most int) api.Span {
		return span(max(-most, s.Lo-g.Intn(9)), min(most, s.Hi+g.Intn(9)))
	}
	switch g.Intn(4) {
	case 0:
		x.Clock = more(x.Clock, api.MaxClock)
	case 1:
		x.Run.Couples[0].Error = more(x.Run.Couples[0].Error, api.MaxError)
	case 2:
		x.Run.Gauge = more(x.Run.Gauge, api.MaxGauge)
	case 3:
		for i := range x.Notes {
			x.Notes[i].Off = more(x.Notes[i].Off, api.MaxOff)
		}
	}
	return x
}

// P2.7: with wider errors, or a wider clock, no class that is printed is higher.
func TestWider(t *testing.T) {
	g := rand.New(rand.NewSource(6))
	lower := 0
	for range 3000 {
		x := kindTest(g)
		y := widened(g, x)
		for letter := uint8(1); letter <= 3; letter++ {
			a, b := classOf(t, y, letter), classOf(t, x, letter)
			if a.Lo > b.Lo || a.Hi < b.Hi {
				t.Fatal(letter, a, b, x, y)
			}
			if a.Lo < b.Lo {
				lower++
			}
		}
	}
	if lower < 50 {
		t.Error("too few classes were lower", lower)
	}
}

// P2.8: R fails no earlier than E, and E no earlier than I.
func TestLetters(t *testing.T) {
	g := rand.New(rand.NewSource(7))
	for range 3000 {
		x := someTest(g)
		for letter := uint8(1); letter < 3; letter++ {
			f, next := firstOf(t, x, letter), firstOf(t, x, letter+1)
			if next.Held > f.Held || f.Held != api.KnownYes && next.At.Lo > f.At.Lo {
				t.Fatal(letter, f, next, x)
			}
			if f.Held == api.KnownNo && next.At.Hi > f.At.Hi {
				t.Fatal(letter, f, next, x)
			}
			s, n := classOf(t, x, letter), classOf(t, x, letter+1)
			if s.Lo < n.Lo || s.Hi < n.Hi {
				t.Fatal(letter, s, n, x)
			}
		}
	}
}

// mended returns a test, with a furnace of 60 rows, in which something does not keep it from a class.
func mended(x api.Test, stop uint8) api.Test {
	x = copyTest(x)
	switch stop {
	case api.StopEnd:
		for i := range x.Notes {
			if x.Notes[i].At == x.End {
				x.Notes[i].At = 3600
			}
		}
		x.End = 3600
	case api.StopFurnace:
		x.Run = furnaceOf(60)
	default:
		x.Notes = append(without(x.Notes, stop), note(x.End, stop, 0))
	}
	return x
}

// P2.9: what is named keeps a test from the next class, each one by itself; without all of it the class is printed.
func TestStopsAreSo(t *testing.T) {
	g := rand.New(rand.NewSource(8))
	several := 0
	for range 2000 {
		x := someTest(g)
		x.Run = someRun(g, 60)
		letter := uint8(between(g, 1, 3))
		lo, stops := classOf(t, x, letter).Lo, stopsOf(t, x, letter)
		if (len(stops) == 0) != (lo == 60) {
			t.Fatal(lo, stops, x)
		}
		next := nextClass(lo)
		if lo == 60 || next == 60 && x.Clock.Hi > 0 {
			continue // No end that there may be is late enough.
		}
		if len(stops) > 1 {
			several++
		}
		all := x
		for _, stop := range stops {
			all = mended(all, stop)
		}
		if s := classOf(t, all, letter); s.Lo < next {
			t.Fatal(lo, stops, s, x)
		}
		for _, left := range stops {
			but := x
			for _, stop := range stops {
				if stop != left {
					but = mended(but, stop)
				}
			}
			if s := classOf(t, but, letter); s.Lo >= next {
				t.Fatal(lo, stops, left, s, x)
			}
		}
	}
	if several < 100 {
		t.Error("too few tests with several stops", several)
	}
}

func nextClass(minutes int) int {
	for _, next := range []int{5, 10, 15, 20, 30, 45} {
		if next > minutes {
			return next
		}
	}
	return 60
}

// P2.4 and P2.9: just what the document names, in its order.
func TestStopsByTheWord(t *testing.T) {
	g := rand.New(rand.NewSource(9))
	for range 3000 {
		x, letter := someTest(g), uint8(between(g, 1, 3))
		if g.Intn(2) == 0 {
			x = kindTest(g)
		}
		lo := classOf(t, x, letter).Lo
		var want []uint8
		if lo < 60 {
			next := nextClass(lo)
			for i := range 2 * letter {
				if f := failsOf(t, x, i+1); f.Held != api.KnownYes && f.At.Lo <= 60*next {
					want = append(want, i+1)
				}
			}
			if x.End-x.Clock.Hi < 60*next {
				want = append(want, api.StopEnd)
			}
			if known, _, e := furnace.Kept(x.Run, x.Rules, next); e != api.OK || known != api.KnownYes {
				want = append(want, api.StopFurnace)
			}
		}
		if l := stopsOf(t, x, letter); !slices.Equal(l, want) {
			t.Fatal(l, want, x)
		}
	}
}
