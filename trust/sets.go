package trust

import "math/bits"

// setOf returns the set of the records with some Ids.
func (x archive) setOf(ids ...int) int {
	set := 0
	for _, p := range x.papers {
		for _, id := range ids {
			if p.Id == id {
				set |= p.bit
			}
		}
	}
	return set
}

// ids returns the Ids of a set of records, in increasing order.
func (x archive) ids(set int) []int {
	var ids []int
	for _, p := range x.papers {
		if set&p.bit != 0 {
			ids = append(ids, p.Id)
		}
	}
	return ids
}

// takes returns the set of records that hold, but not with one more withdrawn.
func (x archive) takes(id int) int { return x.standing() &^ x.with(id).standing() }

// rests returns the set that a record rests on, which holds.
func (x archive) rests(id int) int {
	of := x.setOf(id)
	return fewest(x.standing(), func(set int) bool { return set&of != 0 && x.isWhole(set) })
}

// isWhole returns whether each record of a set has no ways, or one of which all records are in the set.
func (x archive) isWhole(set int) bool {
	for _, p := range x.papers {
		if set&p.bit != 0 && !p.stands(func(id int) bool { return set&x.setOf(id) != 0 }) {
			return false
		}
	}
	return true
}

// causes returns the set of causes of a record, which does not hold.
func (x archive) causes(id int) int {
	withdrawn := 0
	for _, p := range x.papers {
		if x.withdrawn[p.Id] {
			withdrawn |= p.bit
		}
	}
	// With all of these restored each record holds.
	return fewest(withdrawn, func(set int) bool { return x.restored(set).holds(id) })
}

// fewest returns the first one of the smallest sets that are enough, and have nothing but what a set has that is enough.
func fewest(of int, isEnough func(set int) bool) int {
	best := of
	for set := range of {
		if set&^of == 0 && isBefore(set, best) && isEnough(set) {
			best = set
		}
	}
	return best
}

// isBefore returns whether a set is smaller than another one, or as large and its list comes first.
func isBefore(set, than int) bool {
	if count, other := bits.OnesCount(uint(set)), bits.OnesCount(uint(than)); count != other {
		return count < other
	}
	// The lists differ first where the least record comes that just one of them has.
	differ := set ^ than
	return set&differ&-differ != 0
}
