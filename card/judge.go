package card

import (
	"maps"
	"slices"

	"cottonpad/api"
	"cottonpad/trust"
)

// never stands for the day on which something lapses that holds on all of them.
const never = -1

// lieOf returns the first lie of a valid certificate, by the Id of a test and the classes that it has for its letter, and by valid records and letters.
func lieOf(c api.Cert, test int, classes api.Span, r []api.Record, l []api.Letter) uint8 {
	isIt := func(r api.Record) bool { return r.Id == c.Id && r.Kind == api.RecCertificate }
	rests, _ := trust.Rests(r, l, c.Day, c.Id)
	switch {
	case c.Test != test:
		return api.LieTest
	case !slices.ContainsFunc(r, isIt):
		return api.LieRecord
	case !holds(c.Id, r, l, c.Day):
		return api.LieBroken
	case !slices.Equal(c.Rests, rests):
		return api.LieRests
	case c.Minutes > classes.Hi:
		return api.LieClass
	}
	return api.LieNot
}

// holds returns whether a record holds on a day, by valid records and letters.
func holds(id int, r []api.Record, l []api.Letter, day int) bool {
	ids, _ := trust.Holds(r, l, day)
	return slices.Contains(ids, id)
}

// daysFrom returns a day and all later ones on which letters come, in increasing order: on all others what holds is as on the day before.
func daysFrom(first int, letters []api.Letter) []int {
	days := map[int]bool{first: true}
	for _, l := range letters {
		if l.Day > first {
			days[l.Day] = true
		}
	}
	return slices.Sorted(maps.Keys(days))
}
