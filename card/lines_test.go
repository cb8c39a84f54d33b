package card_test

import (
	"fmt"
	"math/rand"
	"regexp"
	"slices"
	"strconv"
	"strings"
	"testing"

	"cottonpad/api"
	"cottonpad/card"
)

// Each line of a text, and its last one: the lines before it, and those behind it, are right.
func (k kind) eachLine(see func(number int, said string, text func(line string) string)) {
	all := append(slices.Clone(k.said), say("END", len(k.said), sealOf(k.said)))
	for i, said := range all {
		see(i+1, said, func(now string) string {
			return body(all[:i]...) + now + body(all[i+1:]...)
		})
	}
}

// P10.2, P10.3: lines that are not written as lines are, though the check is that of their bytes.
func TestWrittenInAnotherWay(t *testing.T) {
	for _, k := range kinds() {
		k.eachLine(func(number int, said string, text func(line string) string) {
			k.expect(t, "as it is", text(line(said)), 0, api.OK)
			for _, other := range []string{
				" " + said, said + " ", strings.Replace(said, " ", "  ", 1), strings.ReplaceAll(said, " ", "  "), strings.Replace(said, " ", "", 1), strings.Replace(said, " ", "\t", 1), strings.Replace(said, " ", ",", 1), strings.Replace(said, " ", "\u00a0", 1),
				strings.ToLower(said), said[1:], said[:1] + said, "X" + said, "", " ", said + "\r", said + "\x00", "\ufeff" + said, said + " 000", strings.Split(said, " ")[0],
			} {
				k.expect(t, fmt.Sprintf("%q", other), text(line(other)), number, api.ErrWrong)
			}
			for _, other := range []string{
				strings.TrimSpace(line(said)) + " \n", strings.TrimSpace(line(said)) + "\r\n", "\n" + line(said), said + "\n", line(said)[1:], line(said) + "\n",
				strings.TrimSuffix(line(said), "\n"), strings.TrimSuffix(line(said), "\n") + " ", strings.ReplaceAll(line(said), "\n", "\r"),
			} {
				at := number
				if other == line(said)+"\n" {
					at++ // the empty line behind it
				}
				k.expect(t, fmt.Sprintf("%q", other), text(other), at, api.ErrWrong)
			}
		})
	}
}

// P10.2, P10.3 and R5: numbers that are not written as numbers are, or are not from -MaxNumber to MaxNumber, in each place.
func TestNumbers(t *testing.T) {
	wrong := []string{
		"", "-", "+", "-0", "+0", "00", "+5", "05", "-05", "--5", "5-", "5.", "5.0", "5e0", "0x5", "1_000", "five", "\u0665", "\u22125", "NaN", "5\t", "5,",
		"1000000001", "-1000000001", "0000000005", "2147483648", "9223372036854775807", "9223372036854775808", "-9223372036854775808", "-9223372036854775809", "18446744073709551616", "18446744073709551621", "99999999999999999999999999", "-99999999999999999999999999",
	}
	for _, k := range kinds() {
		k.eachLine(func(number int, said string, text func(line string) string) {
			for at := range numbersOf(said) {
				for _, n := range wrong {
					k.expect(t, n, text(line(withNumber(said, at, n))), number, api.ErrWrong)
				}
			}
		})
		for i, said := range k.said {
			for at := range numbersOf(said) {
				if place, some := k.bytes[strings.Split(said, " ")[0]]; some && place == at {
					continue
				}
				for _, n := range []string{"-1000000000", "-999999999", "-1", "0", "1", "999999999", "1000000000"} {
					if line, e := k.read(text(k.with(i, withNumber(said, at, n))...)); !isRight(e) || line != 0 && e != api.ErrMatch {
						t.Error(k.name, said, at, n, line, e)
					}
				}
			}
		}
	}
}

// P10.2 and P10.3: a Kind, or a Letter, of 255 and of 256.
func TestBytes(t *testing.T) {
	for _, x := range []struct {
		k    kind
		at   int // the line
		n    int // the number
		want api.Errno
	}{{cards(), 1, 1, api.ErrTest}, {cards(), 3, 1, api.ErrTest}, {certs(), 0, 2, api.ErrCert}} {
		for n := -300; n <= 600; n++ {
			file := text(x.k.with(x.at, withNumber(x.k.said[x.at], x.n, strconv.Itoa(n)))...)
			if n < 0 || n > 255 {
				x.k.expect(t, n, file, x.at+1, api.ErrWrong)
			} else if n == 0 || n > 6 {
				x.k.expect(t, n, file, 0, x.want)
			}
		}
	}
	// A right one is read as it is.
	for kind := 1; kind <= 6; kind++ {
		x := with(shortTest(), func(x *api.Test) { x.Notes = []api.Note{{At: 1, Kind: uint8(kind)}} })
		if y, _, e := card.ReadCard(cardText(x), exampleLog); e != api.OK || len(y.Notes) != 1 || y.Notes[0].Kind != uint8(kind) {
			t.Error(y, e)
		}
	}
}

// P10.2 and P10.3: checks of one, two and three digits.
func TestChecks(t *testing.T) {
	k := certs()
	seen := map[int]bool{}
	for id := range 10000 {
		said := say("REST", id)
		check := checkOf(said)
		if seen[check] {
			continue
		}
		seen[check] = true
		file := func(check string) string {
			return body("CERT 6 4 2 15 10") + said + " " + check + "\n" + end(2, sealOf([]string{"CERT 6 4 2 15 10", said}))
		}
		k.expect(t, check, file(fmt.Sprintf("%03d", check)), 0, api.OK)
		for _, other := range []string{fmt.Sprintf("%04d", check), fmt.Sprintf("+%02d", check), fmt.Sprintf("%03d", (check+1)%997), fmt.Sprintf("%03d", (check+996)%997), fmt.Sprintf("%03d", check+997), fmt.Sprintf("-%03d", check), "", "abc", fmt.Sprintf("%03d ", check)} {
			k.expect(t, other, file(other), 2, api.ErrWrong)
		}
		if check < 100 {
			k.expect(t, check, file(strconv.Itoa(check)), 2, api.ErrWrong)
			k.expect(t, check, file(fmt.Sprintf("%02d", check)), 2, api.ErrWrong)
			k.expect(t, check, file(fmt.Sprintf("%3d", check)), 2, api.ErrWrong)
		}
	}
	for _, check := range list(0, 1, 9, 10, 99, 100, 996) {
		if !seen[check] {
			t.Error("never", check)
		}
	}
}

// numbers are so many of them, as a line of that word may have them.
func numbers(count int) string { return strings.Repeat(" 1", count) }

// P10.2 and P10.3: how many numbers each word has to have.
func TestHowManyNumbers(t *testing.T) {
	for _, k := range kinds() {
		k.eachLine(func(number int, said string, text func(line string) string) {
			word := strings.Split(said, " ")[0]
			for count := range 30 {
				line, e := k.read(text(line(word + numbers(count))))
				fits := count == k.least[word] || k.more[word] > 0 && count > k.least[word] && (count-k.least[word])%k.more[word] == 0
				if fits && e == api.ErrWrong || !fits && (e != api.ErrWrong || line != number) {
					t.Error(k.name, word, count, line, e)
				}
			}
		})
	}
}

// P10.2 and P10.3: words that may stand there, and in which order.
func TestOrderOfWords(t *testing.T) {
	for _, k := range kinds() {
		words := append(k.words(), "HEAD")
		var look func(said []string, left int)
		look = func(said []string, left int) {
			file := text(said...)
			n, e := k.wrong(file)
			if line, f := k.read(file); e != api.OK && (line != n || f != e) || e == api.OK && !isRight(f) {
				t.Error(k.name, line, f, n, e, file)
			}
			if left > 0 {
				for _, word := range words {
					look(append(slices.Clone(said), word+numbers(k.least[word])), left-1)
				}
			}
		}
		look(nil, 4)
		look(k.said, 2)
		for i := range k.said {
			look(k.said[:i], 3)
		}
	}
	// No text is one of another kind.
	for i, k := range kinds() {
		for j, file := range []string{exampleLog, exampleCard, exampleCertText} {
			if line, e := k.read(file); i == j && e != api.OK || i != j && (line != 1 || e != api.ErrWrong) {
				t.Error(i, j, line, e)
			}
		}
	}
}

// P10.2 and P10.3: END that is missing, comes too early, or has something behind it, and lines that are cut off.
func TestEnd(t *testing.T) {
	for _, k := range kinds() {
		count := len(k.said)
		right := text(k.said...)
		k.expect(t, "empty", "", 1, api.ErrWrong)
		k.expect(t, "one line feed", "\n", 1, api.ErrWrong)
		k.expect(t, "END alone", text(), 1, api.ErrWrong)
		k.expect(t, "without END", body(k.said...), count+1, api.ErrWrong)
		k.expect(t, "without its line feed", strings.TrimSuffix(right, "\n"), count+1, api.ErrWrong)
		for _, more := range []string{"\n", " ", "x", "\x00", end(count, sealOf(k.said)), end(count+1, 0), line(k.said[count-1]), right} {
			k.expect(t, fmt.Sprintf("%q behind", more), right+more, count+2, api.ErrWrong)
			// This comes before the wrong numbers of END.
			k.expect(t, fmt.Sprintf("%q behind wrong numbers", more), body(k.said...)+end(0, 0)+more, count+2, api.ErrWrong)
		}
		for i := range count {
			k.expect(t, "cut off", body(k.said[:i]...), i+1, api.ErrWrong)
			n, e := k.wrong(text(k.said[:i]...))
			if line, f := k.read(text(k.said[:i]...)); e == api.ErrWrong && (line != n || f != e) || e == api.OK && !isRight(f) {
				t.Error(k.name, i, line, f)
			}
		}
		for i := range len(right) {
			k.expect(t, "cut off in a line", right[:i], strings.Count(right[:i], "\n")+1, api.ErrWrong)
		}
	}
}

// P10.2 and P10.3: END's numbers wrong, each alone, and both.
func TestEndNumbers(t *testing.T) {
	for _, k := range kinds() {
		count, seal := len(k.said), sealOf(k.said)
		for _, n := range []int{-1000000000, -count, -1, 0, 1, count - 1, count, count + 1, seal, 1000000000} {
			for _, s := range []int{-1000000000, -seal, -1, 0, 1, seal - 997, seal - 1, seal, seal + 1, seal + 997, 996, 997, count, 1000000000} {
				if n == count && s == seal {
					k.expect(t, "right", body(k.said...)+end(n, s), 0, api.OK)
					continue
				}
				k.expect(t, "wrong numbers", body(k.said...)+end(n, s), count+1, api.ErrLast)
			}
		}
		// A wrong line comes first, also the last one itself.
		k.expect(t, "wrong, too", "x"+body(k.said...)+end(0, 0), 1, api.ErrWrong)
		k.expect(t, "wrong, too", body(k.said...)+end(1000000001, 0), count+1, api.ErrWrong)
		// And END comes before what was read.
		spoiled := k.with(0, withNumber(k.said[0], 0, "-1"))
		if line, e := k.read(text(spoiled...)); line != 0 || e == api.OK || !isRight(e) {
			t.Error(k.name, line, e)
		}
		k.expect(t, "wrong numbers", body(spoiled...)+end(count, sealOf(spoiled)+1), count+1, api.ErrLast)
	}
}

// P10.2 and P10.3: of several wrong lines the first one counts.
func TestFirstWrongLine(t *testing.T) {
	for _, k := range kinds() {
		for i := range k.said {
			for j := i; j < len(k.said); j++ {
				said := k.with(i, "?"+k.said[i])
				said[j] = said[j] + " 0 0 0 0 0 0 0 0 -0"
				k.expect(t, fmt.Sprint(i, j), text(said...), i+1, api.ErrWrong)
				k.expect(t, fmt.Sprint(i, j), body(said...), i+1, api.ErrWrong)
			}
		}
	}
}

var written = regexp.MustCompile(`^([A-Z]+)((?: (?:0|-?[1-9][0-9]*))*) ([0-9][0-9][0-9])\n$`)

// wrong is what is wrong with a text, and in which line, before its values are checked, by the words of the chapter.
func (k kind) wrong(text string) (int, api.Errno) {
	if len(text) > 3000 {
		return 0, api.ErrFull
	}
	before, number := "", 0
	var said []string
	for rest := text; rest != "" || before != "END"; {
		number++
		now, behind, _ := strings.Cut(rest, "\n")
		if len(now) < len(rest) {
			now += "\n"
		}
		rest = behind
		words := written.FindStringSubmatch(now)
		if words == nil || len(now) > 300 || !slices.Contains(k.follows[before], words[1]) || !k.areNumbers(words[1], strings.Fields(words[2])) {
			return number, api.ErrWrong
		}
		if checkOf(words[1]+words[2]) != atoi(words[3]) {
			return number, api.ErrWrong
		}
		before = words[1]
		said = append(said, words[1]+words[2])
	}
	if lines := said[:len(said)-1]; said[len(said)-1] != say("END", len(lines), sealOf(lines)) {
		return number, api.ErrLast
	}
	return 0, api.OK
}

func atoi(s string) int {
	n, _ := strconv.Atoi(s)
	return n
}

// areNumbers tells whether a word may have these numbers.
func (k kind) areNumbers(word string, numbers []string) bool {
	more := len(numbers) - k.least[word]
	if more < 0 || more > 0 && (k.more[word] == 0 || more%k.more[word] != 0) {
		return false
	}
	place, some := k.bytes[word]
	for i, s := range numbers {
		n, err := strconv.Atoi(s)
		if err != nil || n < -1000000000 || n > 1000000000 || some && place == i && (n < 0 || n > 255) {
			return false
		}
	}
	return true
}

// changed is a text with something of it changed: bytes, numbers under their right check, lines.
func (k kind) changed(g *rand.Rand, said []string) string {
	said = slices.Clone(said)
	i := g.Intn(len(said))
	right := g.Intn(2) == 0
	switch g.Intn(9) {
	case 0:
		said[i] = withNumber(said[i], g.Intn(len(numbersOf(said[i]))), strconv.Itoa(someOf(g, list(-1000000001, -1000000000, -1, 0, 1, 2, 3, 5, 60, 100, 255, 256, 1000000000, 1000000001))))
	case 1:
		said[i] += someOf(g, []string{" 0", " 1", " 0 1", " ", " -0"})
	case 2:
		said[i] = said[i][:strings.LastIndex(said[i], " ")]
	case 3:
		said = slices.Insert(said, i, someOf(g, said))
	case 4:
		said = slices.Delete(said, i, i+1)
	case 5:
		j := g.Intn(len(said))
		said[i], said[j] = said[j], said[i]
	case 6:
		said = append(said, k.filler(g.Intn(10)))
	case 7:
		said = append(said, slices.Repeat([]string{k.filler(9)}, g.Intn(200))...)
	case 8:
		right = false
	}
	file := text(said...)
	if !right && len(file) > 0 {
		at := g.Intn(len(file))
		file = file[:at] + string(someOf(g, []byte("0123456789 -+\nENDROWx\x00\xff"))) + file[at+g.Intn(2):]
	}
	return file
}

// P10.2, P10.3 and P10.6: of any text the error is that of the chapter's words; a text that is read is written to the same bytes.
func TestAnyTexts(t *testing.T) {
	g := rand.New(rand.NewSource(1))
	for _, k := range kinds() {
		seen := map[api.Errno]int{}
		for range 20000 {
			file := k.changed(g, k.said)
			n, want := k.wrong(file)
			line, e := k.read(file)
			if want != api.OK && (line != n || e != want) || want == api.OK && (line != 0 && e != api.ErrMatch || !isRight(e)) {
				t.Fatalf("%s: line %d, %v; not line %d, %v, of\n%s", k.name, line, e, n, want, file)
			}
			seen[e]++
			if again, is := k.again(file); e == api.OK && (!is || again != file) {
				t.Fatalf("%s: written to\n%s\nnot\n%s", k.name, again, file)
			}
		}
		for _, e := range []api.Errno{api.OK, api.ErrFull, api.ErrWrong} {
			if seen[e] < 100 {
				t.Error("too few of", k.name, e, seen)
			}
		}
	}
}

// again is what a text that is read is written to.
func (k kind) again(file string) (text string, isWritten bool) {
	var e, f api.Errno
	switch k.name {
	case "log":
		r, u, _, read := card.ReadLog(file)
		e = read
		text, f = card.WriteLog(r, u)
	case "card":
		x, _, read := card.ReadCard(file, exampleLog)
		e = read
		text, f = card.WriteCard(x)
	default:
		c, _, read := card.ReadCert(file)
		e = read
		text, f = card.WriteCert(c)
	}
	return text, e == api.OK && f == api.OK
}
