package trust

import (
	"iter"
	"maps"

	"cottonpad/api"
)

// paper is a record at work, with its bit in sets of records.
type paper struct {
	api.Record
	bit int
}

// stands returns whether a record that is not withdrawn holds, by what is so of the records of its ways.
func (x paper) stands(isSo func(id int) bool) bool {
ways:
	for _, way := range x.Ways {
		for _, id := range way {
			if !isSo(id) {
				continue ways
			}
		}
		return true
	}
	return len(x.Ways) == 0
}

// archive is valid records at work, by their Ids in increasing order, and the Ids of those that are withdrawn.
type archive struct {
	papers    []paper
	withdrawn map[int]bool
}

func atWork(records []api.Record, withdrawn map[int]bool) archive {
	x := archive{withdrawn: withdrawn}
	for i, r := range records {
		x.papers = append(x.papers, paper{Record: r, bit: 1 << i})
	}
	return x
}

// withdrawnOn returns the Ids of the records that are withdrawn on a day.
func withdrawnOn(records []api.Record, letters []api.Letter, day int) map[int]bool {
	withdrawn := map[int]bool{}
	for _, r := range records {
		counts := func(l api.Letter) bool { return l.About == r.Id && l.Day <= day }
		l, found := latest(letters, counts, func(l api.Letter) int { return l.Day })
		if found && l.Kind == api.LetterWithdraw {
			withdrawn[r.Id] = true
		}
	}
	return withdrawn
}

// latest returns the latest one of the things of a list that count: of one day the last one of the list.
func latest[T any](list []T, counts func(thing T) bool, day func(thing T) int) (late T, found bool) {
	for _, thing := range list {
		if counts(thing) && (!found || day(thing) >= day(late)) {
			late, found = thing, true
		}
	}
	return late, found
}

// holding yields the records that hold, one after the other.
func (x archive) holding() iter.Seq[paper] {
	return func(yield func(p paper) bool) {
		// Ways name records before their own, so that it is known of all of them.
		held := map[int]bool{}
		for _, p := range x.papers {
			if x.withdrawn[p.Id] || !p.stands(func(id int) bool { return held[id] }) {
				continue
			}
			held[p.Id] = true
			if !yield(p) {
				return
			}
		}
	}
}

// standing returns the set of records that hold.
func (x archive) standing() int {
	set := 0
	for p := range x.holding() {
		set |= p.bit
	}
	return set
}

func (x archive) holds(id int) bool {
	for p := range x.holding() {
		if p.Id == id {
			return true
		}
	}
	return false
}

// with returns the archive with a record withdrawn, too.
func (x archive) with(id int) archive {
	x.withdrawn = maps.Clone(x.withdrawn)
	x.withdrawn[id] = true
	return x
}

// restored returns the archive with all records of a set restored.
func (x archive) restored(set int) archive {
	x.withdrawn = maps.Clone(x.withdrawn)
	for _, id := range x.ids(set) {
		delete(x.withdrawn, id)
	}
	return x
}
