package desk

import (
	"slices"

	"cottonpad/api"
	"cottonpad/class"
	"cottonpad/extend"
	"cottonpad/trust"
)

// noClause is what extend.Lacks returns of a wish that is covered.
const noClause = -1

// within returns whether all of some numbers are in a span.
func within(s api.Span, numbers ...int) bool {
	for _, n := range numbers {
		if n < s.Lo || n > s.Hi {
			return false
		}
	}
	return true
}

// upTo are all numbers from 0 to one.
func upTo(greatest int) api.Span { return api.Span{Lo: 0, Hi: greatest} }

func isOffice(o api.Office) bool {
	return within(upTo(api.MaxDay), o.Day) &&
		areDeeds(o.Log) &&
		areTests(o) &&
		arePrints(o) &&
		trust.Check(o.Records, o.Letters) == api.OK &&
		!slices.ContainsFunc(o.Letters, func(l api.Letter) bool { return l.Day > o.Day }) &&
		areGrants(o)
}

// areTests returns whether the Clauses, the Specimens and Shut of an office are valid: just then it can be asked what some wish lacks.
func areTests(o api.Office) bool {
	some := api.Wish{Letter: api.LetterR, Minutes: 1, Props: make([]int, api.MaxProperties)}
	_, e := extend.Lacks(o.Clauses, o.Specimens, some, o.Shut)
	return e == api.OK
}

// arePrints returns whether the Prints of an office are valid, whose specimens and Shut are.
func arePrints(o api.Office) bool {
	if len(o.Prints) > api.MaxPrints {
		return false
	}
	for i, p := range o.Prints {
		if p.Day > o.Day || i > 0 && p.Day < o.Prints[i-1].Day || !slices.Contains(o.Shut, p.Specimen) {
			return false
		}
		if p.Minutes <= 0 || p.Minutes != classOf(o.Specimens[p.Specimen].Test, p.Letter) {
			return false
		}
	}
	return true
}

// classOf returns the class that a test has whatever is true; 0 if it has none, or the letter is none.
func classOf(t api.Test, letter uint8) int {
	minutes, _ := class.Class(t, letter)
	return minutes.Lo
}

// areGrants returns whether the Grants of an office are valid, of which all else but its Log is.
func areGrants(o api.Office) bool {
	left := map[int]bool{}
	for _, r := range o.Records {
		if r.Kind == api.RecCertificate {
			left[r.Id] = true
		}
	}
	for i, g := range o.Grants {
		if !left[g.Id] || i > 0 && g.Id < o.Grants[i-1].Id {
			return false
		}
		delete(left, g.Id)
		if lack, e := extend.Lacks(o.Clauses, o.Specimens, g.Wish, o.Shut); e != api.OK || lack != noClause {
			return false
		}
	}
	return len(left) == 0
}

func areDeeds(log []api.Deed) bool {
	return len(log) <= api.MaxDeeds && !slices.ContainsFunc(log, func(d api.Deed) bool { return !isDeed(d) })
}

func isDeed(d api.Deed) bool { return isPhrase(d) && areTold(d.Nums) }

// isPhrase returns whether a deed has a word that there is, and as many numbers as this needs.
func isPhrase(d api.Deed) bool {
	t, isWord := tasks()[d.Word]
	return isWord && within(t.counts, len(d.Nums))
}

// areTold returns whether all of some numbers are ones that a deed may have.
func areTold(nums []int) bool {
	return within(api.Span{Lo: -api.MaxTold, Hi: api.MaxTold}, nums...)
}
