package spray

import (
	"cmp"
	"iter"
	"maps"
	"slices"

	"cottonpad/api"
)

// A set of pumps that are out is a map of their indices; one of heads is a number whose bits are their indices.

func setOf(out []int) map[int]bool {
	set := map[int]bool{}
	for _, i := range out {
		set[i] = true
	}
	return set
}

// listOf returns the indices of a set, in increasing order.
func listOf(set map[int]bool) []int { return slices.Sorted(maps.Keys(set)) }

// outs yields all sets of pumps that may be out: the smaller ones first, of as many the first list. A set changes when the next one is asked for.
func outs(n api.Net) iter.Seq[map[int]bool] {
	return func(yield func(set map[int]bool) bool) {
		set := map[int]bool{}
		for count := range n.Out + 1 {
			if !withMore(set, 0, len(n.Pumps), count, yield) {
				return
			}
		}
	}
}

// withMore yields the set with each choice of so many more pumps, of those from one index to another one less 1, and returns whether to go on.
func withMore(set map[int]bool, from, to, count int, yield func(set map[int]bool) bool) bool {
	if count == 0 {
		return yield(set)
	}
	for i := from; i < to; i++ {
		set[i] = true
		if !withMore(set, i+1, to, count-1, yield) {
			return false
		}
		delete(set, i)
	}
	return true
}

// idsOf returns the heads of a set.
func idsOf(heads []api.Head, set int) []int {
	var ids []int
	for i, h := range heads {
		if set&(1<<i) != 0 {
			ids = append(ids, h.Id)
		}
	}
	return ids
}

// before returns whether a list comes before another one: the shorter one does, and of as long ones that with the less thing where they differ first.
func before[T cmp.Ordered](a, b []T) bool {
	return cmp.Or(cmp.Compare(len(a), len(b)), slices.Compare(a, b)) < 0
}
