package card

import "cottonpad/api"

// greatestByte is the greatest number of a kind, or a letter.
const greatestByte = 255

// maxMinutes is the greatest class that a certificate may tell.
const maxMinutes = 60

// within returns whether all of some numbers are in a span.
func within(s api.Span, numbers ...int) bool {
	for _, n := range numbers {
		if n < s.Lo || n > s.Hi {
			return false
		}
	}
	return true
}

// upTo are all numbers from 0 to one.
func upTo(greatest int) api.Span { return api.Span{Lo: 0, Hi: greatest} }

func isCert(c api.Cert) bool {
	return within(upTo(api.MaxId), c.Id, c.Test) &&
		within(api.Span{Lo: api.LetterR, Hi: api.LetterI}, int(c.Letter)) &&
		within(api.Span{Lo: 1, Hi: maxMinutes}, c.Minutes) &&
		within(upTo(api.MaxDay), c.Day) &&
		areRests(c.Rests)
}

// areRests returns whether Ids are in increasing order, no one twice, and not too many.
func areRests(ids []int) bool {
	if len(ids) > api.MaxRests {
		return false
	}
	least := 0
	for _, id := range ids {
		if !within(api.Span{Lo: least, Hi: api.MaxId}, id) {
			return false
		}
		least = id + 1
	}
	return true
}
