package card

import (
	"iter"
	"strconv"
	"strings"

	"cottonpad/api"
)

// checkDigits is how many digits a check has.
const checkDigits = 3

// phrase is what a line says.
type phrase struct {
	word    string
	numbers []int
	check   int
}

// checkOf returns the check of a line, by all that is before its last space.
func checkOf(said string) int {
	sum := 0
	for i := range len(said) {
		sum += int(said[i]) * (i + 1)
	}
	return sum % api.CardPrime
}

// written returns a word and numbers as a line, and its check.
func written(word string, numbers ...int) (line string, check int) {
	said := word
	for _, n := range numbers {
		said += " " + strconv.Itoa(n)
	}
	check = checkOf(said)
	digits := strconv.Itoa(check)
	return said + " " + strings.Repeat("0", checkDigits-len(digits)) + digits + "\n", check
}

// parsed returns what a line says, if it is written as lines are.
func parsed(line string) (p phrase, isRight bool) {
	words := strings.Split(line, " ")
	if len(line) > api.MaxRow || len(words) < 2 {
		return phrase{}, false
	}
	p.word = words[0]
	for _, word := range words[1 : len(words)-1] {
		n, err := strconv.Atoi(word)
		if err != nil || !within(api.Span{Lo: -api.MaxNumber, Hi: api.MaxNumber}, n) {
			return phrase{}, false
		}
		p.numbers = append(p.numbers, n)
	}
	// A number that is read, but not written like that, such as +1, 01 or -0, differs from the same number written again, as a wrong check does.
	again, check := written(p.word, p.numbers...)
	p.check = check
	return p, again == line
}

// lines yields the lines of a text, each with its line feed, unless that of the last one is missing.
func lines(text string) iter.Seq[string] {
	return func(yield func(line string) bool) {
		for text != "" {
			line := text
			if i := strings.IndexByte(text, '\n'); i >= 0 {
				line = text[:i+1]
			}
			if !yield(line) {
				return
			}
			text = text[len(line):]
		}
	}
}
