package burn

import (
	"iter"

	"cottonpad/api"
)

// none stands for no number; no heat, and no second, is below 0.
var none = api.Span{Lo: -1, Hi: -1}

// only is a span of one number.
func only(n int) api.Span { return api.Span{Lo: n, Hi: n} }

// join returns the least span that has all numbers of two spans, the first of which may be none.
func join(a, b api.Span) api.Span {
	if a == none {
		return b
	}
	return api.Span{Lo: min(a.Lo, b.Lo), Hi: max(a.Hi, b.Hi)}
}

// widest returns the span from the least to the greatest number of the spans of some things, 0 to 0 if there is no thing.
func widest[T any](things iter.Seq[T], spanOf func(thing T) api.Span) api.Span {
	widest := none
	for thing := range things {
		widest = join(widest, spanOf(thing))
	}
	if widest == none {
		return api.Span{}
	}
	return widest
}

// total returns the sum of the spans of some seconds.
func total(from, to int, spanOf func(second int) api.Span) api.Span {
	var sum api.Span
	for i := range to - from {
		s := spanOf(from + i)
		sum = api.Span{Lo: sum.Lo + s.Lo, Hi: sum.Hi + s.Hi}
	}
	return sum
}
