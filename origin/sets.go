package origin

import (
	"cmp"
	"math/bits"
	"slices"
)

// A set of marks is a number whose bits are their places in the list.

// all returns the set of all marks.
func (x scene) all() int { return 1<<len(x.Marks) - 1 }

// sets returns all sets of marks: the smaller ones first, of as many the first list.
func (x scene) sets() []int {
	var sets []int
	for set := range 1 << len(x.Marks) {
		sets = append(sets, set)
	}
	slices.SortFunc(sets, inOrder)
	return sets
}

// inOrder compares two sets by how many marks they have, and then by their lists.
func inOrder(a, b int) int {
	// The lists differ first in the first mark that just one of the sets has.
	differ := a ^ b
	mark := differ & -differ
	return cmp.Or(cmp.Compare(bits.OnesCount(uint(a)), bits.OnesCount(uint(b))), cmp.Compare(b&mark, a&mark))
}

// ids returns the Ids of a set of marks, in increasing order.
func (x scene) ids(set int) []int {
	var ids []int
	for i, m := range x.Marks {
		if set&(1<<i) != 0 {
			ids = append(ids, m.Id)
		}
	}
	return ids
}

// excludes returns whether a set of marks excludes a room.
func (x scene) excludes(set, room int) bool {
	for range x.truths(room, set) {
		return false
	}
	return true
}

// excludesAll returns whether a set of marks excludes all rooms.
func (x scene) excludesAll(set int) bool {
	for room := range x.Rooms {
		if !x.excludes(set, room) {
			return false
		}
	}
	return true
}

// fewest returns the Ids of the first one of the smallest sets that exclude something, and whether there is any.
func (x scene) fewest(excludes func(set int) bool) ([]int, bool) {
	// What all marks together do not exclude no fewer ones do.
	if !excludes(x.all()) {
		return nil, false
	}
	set, found := first(slices.Values(x.sets()), excludes)
	return x.ids(set), found
}

// why returns the fewest marks that exclude a room, and whether there are any.
func (x scene) why(room int) ([]int, bool) {
	return x.fewest(func(set int) bool { return x.excludes(set, room) })
}

// against returns the fewest marks that exclude all rooms, none if they do not.
func (x scene) against() []int {
	ids, _ := x.fewest(x.excludesAll)
	return ids
}
