package spray

import (
	"slices"

	"cottonpad/api"
)

// bursts returns the first minute in which the bulb of a head may burst, 0 if there is none, and the last one, 0 if it may stay whole.
func bursts(h api.Head, heat []int) (first, last int) {
	return minute(h.Bulb.Lo, h.Slow.Lo, heat), minute(h.Bulb.Hi, h.Slow.Hi, heat)
}

// minute returns that in which a bulb bursts, 0 if it does not.
func minute(bulb, slow int, heat []int) int {
	before := slices.IndexFunc(heat, func(degree int) bool { return degree >= bulb })
	if before < 0 || before+1+slow > len(heat) {
		return 0
	}
	return before + 1 + slow
}

// burst returns the heads whose bulbs burst for sure, and those whose bulbs may burst.
func burst(heads []api.Head, heats [][]int) (sure, may []int) {
	for i, h := range heads {
		first, last := bursts(h, heats[i])
		if first > 0 {
			may = append(may, h.Id)
		}
		if last > 0 {
			sure = append(sure, h.Id)
		}
	}
	return sure, may
}
