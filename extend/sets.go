package extend

import (
	"cmp"
	"slices"
)

// A set, of specimens or of clauses, is a number whose bits are the indices of what is in it.

func bit(i int) int { return 1 << i }

func setOf(list []int) int {
	set := 0
	for _, i := range list {
		set |= bit(i)
	}
	return set
}

// members returns the indices of a set, in increasing order.
func members(set int) []int {
	var list []int
	for i := 0; bit(i) <= set; i++ {
		if set&bit(i) != 0 {
			list = append(list, i)
		}
	}
	return list
}

// coverings returns all lists of specimens that cover the wish.
func (k *work) coverings() [][]int {
	var lists [][]int
	proofs := k.proofs()
sets:
	for set := range bit(len(k.specimens)) {
		for _, proof := range proofs {
			if proof&set == 0 {
				continue sets
			}
		}
		lists = append(lists, members(set))
	}
	return lists
}

// separate returns all lists of clauses of which no two are proved by one specimen.
func (k *work) separate() [][]int {
	var lists [][]int
	proofs := k.proofs()
sets:
	for set := range bit(len(k.clauses)) {
		list, taken := members(set), 0
		for _, i := range list {
			if proofs[i]&taken != 0 {
				continue sets
			}
			taken |= proofs[i]
		}
		lists = append(lists, list)
	}
	return lists
}

// firstOfBest returns the list that is worth the most; of several ones the first one, by the first thing that differs.
func firstOfBest[T cmp.Ordered](lists [][]T, worth func(list []T) int) []T {
	var best []T
	for i, list := range lists {
		more := worth(list) - worth(best)
		if i == 0 || more > 0 || more == 0 && slices.Compare(list, best) < 0 {
			best = list
		}
	}
	return best
}
