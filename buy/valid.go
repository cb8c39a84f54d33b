package buy

import (
	"slices"

	"cottonpad/api"
	"cottonpad/extend"
)

// within returns whether all of some numbers are in a span.
func within(s api.Span, numbers ...int) bool {
	for _, n := range numbers {
		if n < s.Lo || n > s.Hi {
			return false
		}
	}
	return true
}

// upTo are all numbers from 0 to one.
func upTo(greatest int) api.Span { return api.Span{Lo: 0, Hi: greatest} }

// oneTo are all numbers from 1 to one.
func oneTo(greatest int) api.Span { return api.Span{Lo: 1, Hi: greatest} }

// rule is how many things there may be in a list, and whether one of them is valid.
type rule[T any] struct {
	count   api.Span
	isValid func(thing T) bool
}

// follows returns whether a list follows a rule.
func follows[T any](list []T, r rule[T]) bool {
	if !within(r.count, len(list)) {
		return false
	}
	for _, thing := range list {
		if !r.isValid(thing) {
			return false
		}
	}
	return true
}

// anyWish is a valid wish, for what is asked of clauses and specimens alone.
func anyWish() api.Wish {
	return api.Wish{Letter: api.LetterR, Minutes: 1, Props: make([]int, api.MaxProperties)}
}

// areModels returns whether models are valid with so many specimens.
func areModels(models []api.Model, specimens int) bool {
	return follows(models, rule[api.Model]{oneTo(api.MaxModels), func(m api.Model) bool {
		return within(upTo(api.MaxCost), m.Fee, m.Price) && areIndices(m.Tests, specimens)
	}})
}

// areOpenings returns whether openings are valid, by clauses that are.
func areOpenings(openings []api.Opening, clauses []api.Clause) bool {
	return follows(openings, rule[api.Opening]{oneTo(api.MaxOpenings), func(o api.Opening) bool {
		return extend.Check(clauses, nil, o.Wish) == api.OK && within(oneTo(api.MaxCount), o.Count)
	}})
}

// areLeaves returns whether there are not too many leaves, and all of them are valid with so many models.
func areLeaves(leaves []api.Leaf, models int) bool {
	return follows(leaves, rule[api.Leaf]{upTo(api.MaxLeaves), func(l api.Leaf) bool { return isLeaf(l, models) }})
}

// isLeaf returns whether a leaf is valid with so many models.
func isLeaf(l api.Leaf, models int) bool {
	inBoth := func(i int) bool { return slices.Contains(l.Out, i) }
	return areIndices(l.In, models) && areIndices(l.Out, models) && !slices.ContainsFunc(l.In, inBoth)
}

// areIndices returns whether a list is one of some of so many things, in increasing order, no one twice.
func areIndices(list []int, count int) bool {
	next := 0
	for _, i := range list {
		if !within(api.Span{Lo: next, Hi: count - 1}, i) {
			return false
		}
		next = i + 1
	}
	return true
}
