package card

import "cottonpad/api"

// part is lines with one word that follow each other in a text: one line, or any number of them, what its numbers have to be, and what is done with them.
type part struct {
	word string
	many bool
	fits func(numbers []int) bool
	take func(numbers []int)
}

// count returns what asks for so many numbers.
func count(n int) func(numbers []int) bool {
	return func(numbers []int) bool { return len(numbers) == n }
}

// arePairs returns whether numbers are one pair, or more.
func arePairs(numbers []int) bool { return len(numbers) >= 2 && len(numbers)%2 == 0 }

// countWithByte returns what asks for so many numbers, one of which has to fit into a byte.
func countWithByte(n, at int) func(numbers []int) bool {
	return func(numbers []int) bool { return len(numbers) == n && within(upTo(greatestByte), numbers[at]) }
}

func span(lo, hi int) api.Span { return api.Span{Lo: lo, Hi: hi} }

// partsOfLog are those of a log, from which a run and rules are read.
func partsOfLog(r *api.Run, u *api.Rules) [6]part {
	return [6]part{
		{word: wordRun, fits: count(3), take: func(n []int) { r.Id, r.Gauge = n[0], span(n[1], n[2]) }},
		{word: wordCurve, fits: arePairs, take: func(n []int) {
			for i := 0; i < len(n); i += 2 {
				r.Curve = append(r.Curve, api.Point{Minute: n[i], Degree: n[i+1]})
			}
		}},
		{word: wordCouple, many: true, fits: count(6), take: func(n []int) {
			r.Couples = append(r.Couples, api.Couple{Id: n[0], Error: span(n[1], n[2]), Lag: span(n[3], n[4]), Breaks: n[5]})
		}},
		{word: wordRules, fits: count(5), take: func(n []int) {
			u.Single, u.SingleFrom, u.Press, u.PressFrom = n[0], n[1], span(n[2], n[3]), n[4]
		}},
		{word: wordStep, many: true, fits: count(2), take: func(n []int) {
			u.Steps = append(u.Steps, api.Step{From: n[0], Part: n[1]})
		}},
		{word: wordRow, many: true, fits: func(n []int) bool { return len(n) >= 1 }, take: func(n []int) {
			r.Rows = append(r.Rows, api.Row{Press: n[0], Degrees: append([]int(nil), n[1:]...)})
		}},
	}
}

// partsOfCard are those of a card, from which a test is read, but for its run and rules, and what is told of their log.
func partsOfCard(t *api.Test, log *source) [2]part {
	return [2]part{
		{word: wordTest, fits: count(6 + api.Criteria), take: func(n []int) {
			t.Id, *log, t.Clock, t.End = n[0], source{id: n[1], sum: n[2]}, span(n[3], n[4]), n[5]
			t.Limits = [api.Criteria]int(n[6:])
		}},
		{word: wordNote, many: true, fits: countWithByte(5, 1), take: func(n []int) {
			t.Notes = append(t.Notes, api.Note{At: n[0], Kind: uint8(n[1]), Value: n[2], Off: span(n[3], n[4])})
		}},
	}
}

// partsOfCert are those of the text of a certificate.
func partsOfCert(c *api.Cert) [2]part {
	return [2]part{
		{word: wordCert, fits: countWithByte(5, 2), take: func(n []int) {
			c.Id, c.Test, c.Letter, c.Minutes, c.Day = n[0], n[1], uint8(n[2]), n[3], n[4]
		}},
		{word: wordRest, many: true, fits: count(1), take: func(n []int) { c.Rests = append(c.Rests, n[0]) }},
	}
}
