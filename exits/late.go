package exits

import (
	"slices"

	"cottonpad/api"
)

// none stands for no chamber, and for no stair.
const none = -1

// nowhere is that people are late in no chamber, and on no stair.
var nowhere = [2]int{none, none}

// late returns the first chamber and the first stair in which people are late at an end.
func (x escape) late(at end) [2]int {
	return [2]int{x.lateChamber(at), x.lateStair(at)}
}

// lateChamber returns the first chamber that somebody leaves after its smoke, at an end.
func (x escape) lateChamber(at end) int {
	late, takes := none, x.taking(at)
	for _, w := range x.people {
		isLate := takes(w) > at.gives(x.Chambers[w.Chamber].Smoke)
		if isLate && (late == none || w.Chamber < late) {
			late = w.Chamber
		}
	}
	return late
}

// lateStair returns the first stair that somebody leaves after its smoke, at an end.
func (x escape) lateStair(at end) int {
	late := none
stairs:
	for stair, come := range x.stairs(at) {
		for _, time := range x.leaving(stair, come, at) {
			if time > at.gives(x.Stairs[stair].Smoke) {
				late = stair
				break stairs
			}
		}
	}
	return late
}

// isSafe returns whether each truth is safe.
func (x escape) isSafe() bool {
	_, worst := ends()
	return x.late(worst) == nowhere
}

// safe returns whether each truth is safe, none is, or just some are, and where people may be late.
func (x escape) safe() (known uint8, late [2]int) {
	if x.isSafe() {
		return api.KnownYes, nowhere
	}
	best, worst := ends()
	if x.late(best) != nowhere {
		return api.KnownNo, x.late(worst)
	}
	return api.KnownOpen, x.late(worst)
}

// more returns how many walkers more, like one, there may be so that each truth is safe, if each one is as it is.
func (x escape) more(like api.Walker) int {
	room := api.MaxWalkers - len(x.people)
	for more := range room {
		// With one more the last one leaves no stair sooner, so that what is not safe stays so.
		people := slices.Concat(x.people, slices.Repeat([]api.Walker{like}, more+1))
		if !begin(x.Building, people).isSafe() {
			return more
		}
	}
	return room
}
