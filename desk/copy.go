package desk

import (
	"slices"

	"cottonpad/api"
)

// copied returns a list in new memory, each thing of which is copied itself.
func copied[T any](list []T, copyOf func(thing T) T) []T {
	var all []T
	for _, thing := range list {
		all = append(all, copyOf(thing))
	}
	return all
}

func copyOfOffice(o api.Office) api.Office {
	o.Clauses = slices.Clone(o.Clauses)
	o.Specimens = copied(o.Specimens, copyOfSpecimen)
	o.Shut = slices.Clone(o.Shut)
	o.Prints = slices.Clone(o.Prints)
	o.Records = copied(o.Records, copyOfRecord)
	o.Letters = slices.Clone(o.Letters)
	o.Grants = copied(o.Grants, copyOfGrant)
	o.Log = copied(o.Log, copyOfDeed)
	return o
}

func copyOfSpecimen(s api.Specimen) api.Specimen {
	run := &s.Test.Run
	run.Curve = slices.Clone(run.Curve)
	run.Couples = slices.Clone(run.Couples)
	run.Rows = copied(run.Rows, copyOfRow)
	s.Test.Rules.Steps = slices.Clone(s.Test.Rules.Steps)
	s.Test.Notes = slices.Clone(s.Test.Notes)
	s.Props = slices.Clone(s.Props)
	return s
}

func copyOfRow(r api.Row) api.Row {
	r.Degrees = slices.Clone(r.Degrees)
	return r
}

func copyOfRecord(r api.Record) api.Record {
	r.Ways = copied(r.Ways, slices.Clone[[]int])
	return r
}

func copyOfGrant(g api.Grant) api.Grant {
	g.Wish.Props = slices.Clone(g.Wish.Props)
	return g
}

func copyOfDeed(d api.Deed) api.Deed {
	d.Nums = slices.Clone(d.Nums)
	return d
}
