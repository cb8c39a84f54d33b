package extend

import (
	"cottonpad/api"
	"cottonpad/class"
)

// within returns whether all of some numbers are in a span.
func within(s api.Span, numbers ...int) bool {
	for _, n := range numbers {
		if n < s.Lo || n > s.Hi {
			return false
		}
	}
	return true
}

// values are all that a property may be.
func values() api.Span { return api.Span{Lo: 0, Hi: api.MaxLength} }

func isProperty(n int) bool { return within(api.Span{Lo: 0, Hi: api.MaxProperties - 1}, n) }

func areClauses(clauses []api.Clause) bool {
	for _, c := range clauses {
		if !isClause(c) {
			return false
		}
	}
	return within(api.Span{Lo: 1, Hi: api.MaxClauses}, len(clauses))
}

func isClause(c api.Clause) bool {
	if c.Kind == api.ClauseSame && c.By != 0 {
		return false
	}
	return isProperty(c.Property) &&
		within(api.Span{Lo: api.ClauseSame, Hi: api.ClauseFrom}, int(c.Kind)) &&
		within(values(), c.By) &&
		within(api.Span{Lo: 0, Hi: api.MaxOver}, c.Over)
}

func areSpecimens(specimens []api.Specimen) bool {
	if len(specimens) > api.MaxSpecimens {
		return false
	}
	for _, s := range specimens {
		if !areProps(s.Props) || class.Check(s.Test) != api.OK {
			return false
		}
	}
	return true
}

func areProps(props []int) bool {
	return len(props) == api.MaxProperties && within(values(), props...)
}

func isWish(w api.Wish) bool {
	return within(api.Span{Lo: api.LetterR, Hi: api.LetterI}, int(w.Letter)) &&
		within(api.Span{Lo: 1, Hi: maxMinutes}, w.Minutes) &&
		areProps(w.Props)
}

// areIndices returns whether a list is one of some of so many things, in increasing order.
func areIndices(list []int, count int) bool {
	next := 0
	for _, i := range list {
		if !within(api.Span{Lo: next, Hi: count - 1}, i) {
			return false
		}
		next = i + 1
	}
	return true
}
