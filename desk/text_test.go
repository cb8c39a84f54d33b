package desk_test

import (
	"fmt"
	"maps"
	"math/rand"
	"slices"
	"strings"
	"testing"

	"cottonpad/api"
	"cottonpad/desk"
)

// sealOf is the seal of a line up to its third bar, behind another one, by the words of the chapter.
func sealOf(before int, said string) int {
	for _, b := range []byte(said) {
		before *= 17
		before += int(b)
		before %= 65521
	}
	return before
}

// sealed is a text of lines that are given up to their third bars, under their seals.
func sealed(said ...string) string {
	text, seal := "", 0
	for _, s := range said {
		seal = sealOf(seal, s)
		text += fmt.Sprintf("%s%d\n", s, seal)
	}
	return text
}

// saidOf is a line of a deed, up to its third bar.
func saidOf(number int, d api.Deed) string {
	nums := strings.ReplaceAll(strings.Trim(fmt.Sprint(d.Nums), "[]"), " ", ",")
	return fmt.Sprintf("%d|%s|%s|", number, d.Word, nums)
}

// textOf is the text of a log.
func textOf(log []api.Deed) string {
	var said []string
	for i, d := range log {
		said = append(said, saidOf(i+1, d))
	}
	return sealed(said...)
}

// expectText checks that a log is written as a text, and read from it.
func expectText(t *testing.T, log []api.Deed, text string) {
	t.Helper()
	if s, e := desk.Write(log); s != text || e != api.OK {
		t.Errorf("%q %v, not %q", s, e, text)
	}
	if l, line, e := desk.Read(text); !same(l, log) || line != 0 || e != api.OK {
		t.Error(l, line, e, "not", log)
	}
}

// expectWrong checks the error of a text, and its line.
func expectWrong(t *testing.T, text string, line int, want api.Errno) {
	t.Helper()
	if l, n, e := desk.Read(text); len(l) > 0 || n != line || e != want {
		t.Errorf("%v, line %d, %v; not line %d, %v, of\n%.300q", l, n, e, line, want, text)
	}
}

// someDeed is any deed.
func someDeed(g *rand.Rand) api.Deed {
	all := tasks()
	d := api.Deed{Word: someOf(g, slices.Sorted(maps.Keys(all)))}
	for range between(g, all[d.Word].Lo, all[d.Word].Hi) {
		d.Nums = append(d.Nums, someOf(g, list(0, 1, -1, 7, 10, -10, 100, 999, -1000, 123456789, 1000000000, -1000000000, between(g, -1000000000, 1000000000))))
	}
	return d
}

func someLog(g *rand.Rand, count int) []api.Deed {
	var log []api.Deed
	for range count {
		log = append(log, someDeed(g))
	}
	return log
}

// P11.4 and P11.5: the chapter's example, an empty log, and a deed of each word.
func TestTexts(t *testing.T) {
	expectText(t, deeds("day 41"), "1|day|41|40055\n")
	expectText(t, nil, "")
	expectText(t, []api.Deed{}, "")
	if log, line, e := desk.Read(""); len(log) > 0 || line != 0 || e != api.OK {
		t.Error(log, line, e)
	}
	all := deeds("day 41; row 0 -5 100; row 1 0 1 2 3 4 5 6 7 8; note 0 1500 5 100 -7 0; shut 0; print 0 1; factory 0; drawing 9999; batch 3 1; batch 4 1 2 3 4; grant 7 2 15 2050 0 0 0 0 0 1; grant 8 2 15 2050 0 0 0 0 0 1 2 3 4; withdraw 1; restore -1000000000")
	expectText(t, all, textOf(all))
	lines := strings.SplitAfter(textOf(all), "\n")
	for i, start := range []string{"1|day|41|40055\n", "2|row|0,-5,100|", "3|row|1,0,1,2,3,4,5,6,7,8|", "4|note|0,1500,5,100,-7,0|", "5|shut|0|", "6|print|0,1|", "7|factory|0|", "8|drawing|9999|", "9|batch|3,1|", "10|batch|4,1,2,3,4|", "11|grant|7,2,15,2050,0,0,0,0,0,1|", "12|grant|8,2,15,2050,0,0,0,0,0,1,2,3,4|", "13|withdraw|1|", "14|restore|-1000000000|"} {
		if !strings.HasPrefix(lines[i], start) {
			t.Error(lines[i], start)
		}
	}
	// The seal goes on from line to line.
	second := sealOf(40055, "2|day|41|")
	expectText(t, deeds("day 41; day 41"), fmt.Sprintf("1|day|41|40055\n2|day|41|%d\n", second))
	expectWrong(t, fmt.Sprintf("1|day|41|40055\n2|day|41|%d\n", sealOf(0, "2|day|41|")), 2, api.ErrLogSeal)
}

// P11.4, P11.5 and P11.8: any logs are written as the chapter says it, and read to the same.
func TestAnyLogs(t *testing.T) {
	g := rand.New(rand.NewSource(1))
	for range 500 {
		log := someLog(g, g.Intn(40))
		expectText(t, log, textOf(log))
	}
}

// P11.4 and R5: what is no deed, whichever of a log it is, and too many deeds.
func TestWriteErrors(t *testing.T) {
	wrong := []api.Deed{{}, {Word: "deed", Nums: list(1)}, {Word: "Day", Nums: list(1)}, {Word: "day"}, {Word: "day", Nums: list(1, 2)}, {Word: "", Nums: list(1)}, {Word: "day|1", Nums: list(1)}}
	for _, n := range append(beyond(), 1000000001, -1000000001) {
		wrong = append(wrong, api.Deed{Word: "day", Nums: list(n)}, api.Deed{Word: "print", Nums: list(0, n)})
	}
	for word, counts := range tasks() {
		wrong = append(wrong, api.Deed{Word: word, Nums: make([]int, counts.Lo-1)}, api.Deed{Word: word, Nums: make([]int, counts.Hi+1)})
	}
	for _, d := range wrong {
		for at := range 3 {
			if s, e := desk.Write(slices.Insert(deeds("day 1; shut 0"), at, d)); s != "" || e != api.ErrArg {
				t.Errorf("%v %q %v", d, s, e)
			}
		}
	}
	for _, count := range list(149, 150, 151, 152, 1000) {
		s, e := desk.Write(slices.Repeat(deeds("day 1"), count))
		if count <= 150 && (e != api.OK || strings.Count(s, "\n") != count) || count > 150 && (s != "" || e != api.ErrArg) {
			t.Error(count, len(s), e)
		}
	}
}

// long is a log whose text has so many bytes.
func long(t *testing.T, bytes int) []api.Deed {
	g := rand.New(rand.NewSource(2))
	var log []api.Deed
	for len(textOf(log)) < bytes-250 {
		d := api.Deed{Word: "grant", Nums: slices.Repeat(list(-999999999), 13)}
		log = append(log, d)
	}
	for range 10000 {
		last := api.Deed{Word: "row"}
		for range 10 {
			last.Nums = append(last.Nums, someOf(g, list(1, 22, 333, 4444, 55555, 999999999, -1000000000)))
		}
		more := append(slices.Clone(log), last, last)
		if len(textOf(more)) == bytes {
			return more
		}
	}
	t.Fatal("no log of", bytes)
	return nil
}

// P11.4 and P11.5: texts of MaxLogText bytes, of one less, and of one more.
func TestLongTexts(t *testing.T) {
	for _, bytes := range list(11999, 12000, 12001) {
		log := long(t, bytes)
		text := textOf(log)
		if bytes <= api.MaxLogText {
			expectText(t, log, text)
			continue
		}
		if s, e := desk.Write(log); s != "" || e != api.ErrFull {
			t.Error(bytes, len(s), e)
		}
		expectWrong(t, text, 0, api.ErrFull)
	}
	// That it is too long comes first, and behind what is no deed.
	if s, e := desk.Write(append(long(t, 12001), api.Deed{})); s != "" || e != api.ErrArg {
		t.Error(s, e)
	}
	expectWrong(t, strings.Repeat("x", 12001), 0, api.ErrFull)
	expectWrong(t, strings.Repeat("\n", 12001), 0, api.ErrFull)
	expectWrong(t, strings.Repeat("x", 12000), 1, api.ErrLogLine)
	expectWrong(t, strings.Repeat("\n", 12000), 1, api.ErrLogLine)
	expectWrong(t, strings.Repeat("x", 1<<20), 0, api.ErrFull)
}

// P11.5: as many lines as there may be, and one more, whatever this is.
func TestManyLines(t *testing.T) {
	log := slices.Repeat(deeds("day 1"), 151)
	expectText(t, log[:150], textOf(log[:150]))
	expectWrong(t, textOf(log), 151, api.ErrLogLine)
	for _, more := range []string{"x", "\n", "151|day|1|7\n", "151|day|1|", "1|day|41|40055\n"} {
		expectWrong(t, textOf(log[:150])+more, 151, api.ErrLogLine)
		expectWrong(t, textOf(log)+more, 151, api.ErrLogLine)
	}
	// A line before it that is wrong comes first.
	lines := strings.SplitAfter(textOf(log), "\n")
	for _, at := range list(0, 70, 149) {
		text := strings.Join(lines[:at], "") + fmt.Sprintf("%d|day|1|%d\n", at+1, 1) + strings.Join(lines[at+1:], "")
		expectWrong(t, text, at+1, api.ErrLogSeal)
		expectWrong(t, strings.Join(lines[:at], "")+"\n"+strings.Join(lines[at:], ""), at+1, api.ErrLogLine)
	}
}

// P11.5: lines that are not as Write writes one, under the seals that they would have, as the first one of a text and as the last one.
func TestWrongLines(t *testing.T) {
	for _, said := range []string{
		"", "N", "N|", "N||", "N|day", "N|day|", "N|day|41", "|day|41|", "|||", "||||", "N|day|41||", "N||41|", "N|day||", "N|day|41,|", "N|day|,41|", "N|day|,|", "N|day|41,42|", "N|shut|0,1|", "N|print|0|", "N|print|0,,1|", "N|print|0 1|", "N|print|0, 1|", "N|print|0;1|",
		"N|Day|41|", "N|DAY|41|", "N|deed|41|", "N|day |41|", "N| day|41|", "N|day| 41|", "N|day|41 |", " N|day|41|", "N |day|41|", "N|days|41|", "N|da|41|", "N|day\x00|41|", "N|day|41\r|",
		"N|day|041|", "N|day|+41|", "N|day|-0|", "N|day|00|", "N|day|-041|", "N|day|--41|", "N|day|-|", "N|day|4-1|", "N|day|4_1|", "N|day|0x29|", "N|day|41.0|", "N|day|4e1|", "N|day|１|", "N|day|1000000001|", "N|day|-1000000001|", "N|day|99999999999999999999|", "N|day|-9223372036854775808|", "N|day|9223372036854775808|",
		"N|row|0,0|", "N|row|0,0,1,2,3,4,5,6,7,8,9|", "N|note|0,1,2,3,4|", "N|note|0,1,2,3,4,5,6|", "N|batch|1|", "N|batch|1,2,3,4,5,6|", "N|grant|1,2,3,4,5,6,7,8,9|", "N|grant|1,2,3,4,5,6,7,8,9,10,11,12,13,14|", "N|factory|1,2|", "N|drawing|1,2|", "N|withdraw|1,2|", "N|restore|1,2|",
		"0N|day|41|", "+N|day|41|", "-N|day|41|", "N0|day|41|", "0|day|41|", "-1|day|41|", "9|day|41|", "N.|day|41|", "N|day|41|N|day|41|",
	} {
		for before := range 3 {
			start := slices.Repeat(deeds("day 41"), before)
			text, number := textOf(start), fmt.Sprint(before+1)
			line := strings.ReplaceAll(said, "N", number)
			seal := 0
			for i, d := range start {
				seal = sealOf(seal, saidOf(i+1, d))
			}
			seal = sealOf(seal, line)
			for _, behind := range []string{fmt.Sprintf("%d\n", seal), fmt.Sprint(seal), "\n", "1\n", "-1\n"} {
				for _, more := range []string{"", "x\n", "1|day|41|40055\n"} {
					if line+behind != "" && (strings.HasSuffix(behind, "\n") || more == "") {
						expectWrong(t, text+line+behind+more, before+1, api.ErrLogLine)
					}
				}
			}
		}
	}
}

// P11.5: seals that are none, and seals that are other ones.
func TestSeals(t *testing.T) {
	for _, seal := range []string{"", "-1", "-0", "+40055", "040055", "00", "000", " 40055", "40055 ", "40055|", "65521", "65522", "105576", "99999", "100000", "-25466", "4005x", "x", "4_0055", "40055\r", "0x9C77", "40055,1", "9223372036854775808", "-9223372036854775809", "99999999999999999999"} {
		expectWrong(t, "1|day|41|"+seal+"\n", 1, api.ErrLogLine)
		expectWrong(t, "1|day|41|"+seal+"\n2|day|41|1\n", 1, api.ErrLogLine)
		expectWrong(t, "1|day|41|"+seal, 1, api.ErrLogLine)
		expectWrong(t, "1|day|41|40055\n2|day|41|"+seal+"\n", 2, api.ErrLogLine)
	}
	for seal := range api.SealPrime {
		if seal != 40055 {
			expectWrong(t, fmt.Sprintf("1|day|41|%d\n", seal), 1, api.ErrLogSeal)
		}
	}
	expectWrong(t, "1|day|41|40055", 1, api.ErrLogLine)
	expectWrong(t, "1|day|41|40054", 1, api.ErrLogLine)
	expectWrong(t, "1|day|41|40055\n\n", 2, api.ErrLogLine)
	expectWrong(t, "1|day|41|40055\nx", 2, api.ErrLogLine)
	expectWrong(t, "1|day|41|40055\n1|day|41|40055\n", 2, api.ErrLogLine)
	// Whichever comes first: a wrong line, or another seal.
	expectWrong(t, "1|day|41|40054\n2|day|41|-1\n", 1, api.ErrLogSeal)
	expectWrong(t, "1|day|41|40054\nx", 1, api.ErrLogSeal)
	expectWrong(t, "1|day|41|40054\n2|day|41|1\n", 1, api.ErrLogSeal)
	expectWrong(t, "1|day|041|40054\n2|day|41|1\n", 1, api.ErrLogLine)
	// A line under the right seal behind a wrong one.
	expectWrong(t, "1|day|42|40055\n2|day|41|"+fmt.Sprint(sealOf(40055, "2|day|41|"))+"\n", 1, api.ErrLogSeal)
	// Seals of all lengths come, 0 and SealPrime less 1 among them.
	lengths := map[int]int{}
	for n := range 200000 {
		d := api.Deed{Word: "day", Nums: list(n)}
		seal := sealOf(0, saidOf(1, d))
		lengths[len(fmt.Sprint(seal))]++
		if seal == 0 || seal == api.SealPrime-1 {
			lengths[-seal]++
			expectText(t, []api.Deed{d}, fmt.Sprintf("1|day|%d|%d\n", n, seal))
		}
	}
	if len(lengths) < 7 {
		t.Error("not all seals came", lengths)
	}
}

// smallLog is one whose text has all that a text may have, and few bytes.
func smallLog() []api.Deed {
	return deeds("day 41; note 0 1500 5 100 -10 0; row 1 -2 300; shut 0; print 0 1; batch 12 3 10; withdraw 10")
}

// P11.8: one byte that is changed, to each other one, is seen in its line.
func TestEachByte(t *testing.T) {
	text := textOf(smallLog())
	line, seals := 1, 0
	for i := range len(text) {
		for b := range 256 {
			if byte(b) == text[i] {
				continue
			}
			changed := text[:i] + string([]byte{byte(b)}) + text[i+1:]
			log, n, e := desk.Read(changed)
			if len(log) > 0 || n != line || e != api.ErrLogLine && e != api.ErrLogSeal {
				t.Fatalf("%q %d %v, not %d", changed, n, e, line)
			}
			if e == api.ErrLogSeal {
				seals++
			}
		}
		if text[i] == '\n' {
			line++
		}
	}
	if seals < 100 {
		t.Error("too few other seals", seals)
	}
}

// P11.8: a byte less, and one more, are seen in their line; an empty line is one of its own.
func TestBytesMissing(t *testing.T) {
	text := textOf(smallLog())
	for i := range len(text) {
		line := strings.Count(text[:i], "\n") + 1
		if _, n, e := desk.Read(text[:i] + text[i+1:]); n != line || e == api.OK {
			t.Error(i, n, e, line)
		}
		for _, b := range []string{"0", "1", "-", ",", "|", "\n", "x"} {
			want := line
			if b == "\n" && text[i] == '\n' {
				want++
			}
			if _, n, e := desk.Read(text[:i] + b + text[i:]); n != want || e == api.OK {
				t.Errorf("%d %q %d %v %d", i, b, n, e, want)
			}
		}
	}
}

// P11.8: lines that are cut off at the end leave a log of those before; a line that is cut is wrong.
func TestCutOff(t *testing.T) {
	g := rand.New(rand.NewSource(3))
	for range 60 {
		log := someLog(g, between(g, 1, 12))
		text := textOf(log)
		for i := range len(text) + 1 {
			whole := strings.Count(text[:i], "\n")
			if i > 0 && text[i-1] != '\n' {
				expectWrong(t, text[:i], whole+1, api.ErrLogLine)
				continue
			}
			if l, line, e := desk.Read(text[:i]); !same(l, log[:whole]) || line != 0 || e != api.OK {
				t.Fatal(i, l, line, e)
			}
		}
	}
}

// P11.8: lines that are missing, two of them, or swapped, are seen.
func TestLinesMoved(t *testing.T) {
	g := rand.New(rand.NewSource(4))
	for range 60 {
		log := someLog(g, between(g, 2, 9))
		lines := strings.SplitAfter(textOf(log), "\n")
		lines = lines[:len(lines)-1]
		for i := range lines {
			if i < len(lines)-1 {
				expectWrong(t, strings.Join(slices.Delete(slices.Clone(lines), i, i+1), ""), i+1, api.ErrLogLine)
			}
			expectWrong(t, strings.Join(slices.Insert(slices.Clone(lines), i, lines[i]), ""), i+2, api.ErrLogLine)
			for j := range i {
				swapped := slices.Clone(lines)
				swapped[i], swapped[j] = swapped[j], swapped[i]
				expectWrong(t, strings.Join(swapped, ""), j+1, api.ErrLogLine)
			}
		}
	}
}

// someText is a text with some changes.
func someText(g *rand.Rand) string {
	text := textOf(someLog(g, between(g, 0, 6)))
	for range g.Intn(4) {
		i := g.Intn(len(text) + 1)
		j := min(len(text), i+g.Intn(3))
		text = text[:i] + someOf(g, []string{"", "0", "1", "-", ",", "|", "\n", "x", "day", "1|day|41|40055\n", "\xff", "\x00", "é"}) + text[j:]
	}
	return text
}

// P11.5 and P11.8: what is read is what was written, whatever the text is; and of what is wrong the first line is told.
func TestAnyTexts(t *testing.T) {
	g := rand.New(rand.NewSource(5))
	count := map[api.Errno]int{}
	for range 30000 {
		text := someText(g)
		log, line, e := desk.Read(text)
		count[e]++
		if e == api.OK {
			if s, e := desk.Write(log); s != text || e != api.OK || line != 0 {
				t.Fatalf("%q %q %v %d", text, s, e, line)
			}
			continue
		}
		lines := strings.SplitAfter(text, "\n")
		if len(log) > 0 || line < 1 || line > len(lines) {
			t.Fatalf("%q %v %d %v", text, log, line, e)
		}
		// The lines before are right, and with the line itself they are not.
		if _, n, e := desk.Read(strings.Join(lines[:line-1], "")); n != 0 || e != api.OK {
			t.Fatalf("%q %d %v", text, n, e)
		}
		if _, n, f := desk.Read(strings.Join(lines[:line], "")); n != line || f != e {
			t.Fatalf("%q %d %v %v", text, n, f, e)
		}
	}
	if count[api.OK] < 1000 || count[api.ErrLogLine] < 1000 || count[api.ErrLogSeal] < 1000 {
		t.Error("too few of one kind", count)
	}
}
