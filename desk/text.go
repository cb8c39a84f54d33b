package desk

import (
	"iter"
	"strconv"
	"strings"

	"cottonpad/api"
)

// What is between the parts of a line, and between its Nums.
const (
	bar   = "|"
	comma = ","
	feed  = "\n"
)

// lineParts is how many parts a line has: its number, the Word, the Nums, and its seal.
const lineParts = 4

// saidOf returns what a line says of a deed, up to its third bar.
func saidOf(number int, d api.Deed) string {
	var nums []string
	for _, n := range d.Nums {
		nums = append(nums, strconv.Itoa(n))
	}
	return strconv.Itoa(number) + bar + d.Word + bar + strings.Join(nums, comma) + bar
}

// lineOf returns a line under its seal.
func lineOf(said string, seal int) string { return said + strconv.Itoa(seal) + feed }

// sealAfter returns the seal of a line, by that of the line before.
func sealAfter(seal int, said string) int {
	for i := range len(said) {
		seal = (seal*api.SealFactor + int(said[i])) % api.SealPrime
	}
	return seal
}

// numbered yields the lines of a text, each with its number, and its line feed, unless this is missing.
func numbered(text string) iter.Seq2[int, string] {
	return func(yield func(number int, line string) bool) {
		rest := text
		for number := 1; rest != ""; number++ {
			line := rest
			if i := strings.Index(rest, feed); i >= 0 {
				line = rest[:i+len(feed)]
			}
			if !yield(number, line) {
				return
			}
			rest = rest[len(line):]
		}
	}
}

// parsed returns the deed and the seal of a line, if it is written as lines are.
func parsed(number int, line string) (d api.Deed, seal int, isRight bool) {
	parts := strings.Split(line, bar)
	if len(parts) != lineParts {
		return api.Deed{}, 0, false
	}
	nums, areNumbers := numbersOf(strings.Split(parts[2], comma))
	seals, isNumber := numbersOf([]string{strings.TrimSuffix(parts[3], feed)})
	if !areNumbers || !isNumber {
		return api.Deed{}, 0, false
	}
	d, seal = api.Deed{Word: parts[1], Nums: nums}, seals[0]
	// A number that is read, but not written like that, such as +1, 01 or -0, differs from the same number written again.
	isRight = isDeed(d) && within(upTo(api.SealPrime-1), seal) && line == lineOf(saidOf(number, d), seal)
	return d, seal, isRight
}

// numbersOf returns the numbers that some words are, if they are.
func numbersOf(words []string) (numbers []int, areNumbers bool) {
	for _, word := range words {
		n, err := strconv.Atoi(word)
		if err != nil {
			return nil, false
		}
		numbers = append(numbers, n)
	}
	return numbers, true
}
