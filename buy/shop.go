package buy

import (
	"slices"

	"cottonpad/api"
	"cottonpad/extend"
)

// offer is a model at work, with its index.
type offer struct {
	api.Model
	index int
}

// covers returns whether the model's tests cover a wish, by the specimens that prove each clause.
func (x offer) covers(proofs [][]int) bool {
	for _, proof := range proofs {
		if !slices.ContainsFunc(proof, func(test int) bool { return slices.Contains(x.Tests, test) }) {
			return false
		}
	}
	return true
}

// shop is models and openings at work, all of them valid, and the models that fit each opening, by its index.
type shop struct {
	offers   []offer
	openings []api.Opening
	fits     map[int][]offer
}

func atWork(c []api.Clause, s []api.Specimen, m []api.Model, o []api.Opening) shop {
	x := shop{openings: o, fits: map[int][]offer{}}
	for i, model := range m {
		x.offers = append(x.offers, offer{Model: model, index: i})
	}
	for i, opening := range o {
		proofs, _ := extend.Proves(c, s, opening.Wish)
		for _, model := range x.offers {
			if model.covers(proofs) {
				x.fits[i] = append(x.fits[i], model)
			}
		}
	}
	return x
}

// fitting returns for each opening the indices of all models that fit it.
func (x shop) fitting() [][]int {
	lists := make([][]int, len(x.openings))
	for i := range lists {
		for _, model := range x.fits[i] {
			lists[i] = append(lists[i], model.index)
		}
	}
	return lists
}

// bill is what a plan costs: the fees of its models, each one once, and the prices of all doors.
type bill struct{ fees, prices int }

// noBill stands for that of no plan.
var noBill = bill{fees: -1, prices: -1}

func (b bill) coins() int { return b.fees + b.prices }

// isLess returns whether a plan costs less than another one, or there is no other one.
func (b bill) isLess(than bill) bool { return than == noBill || b.coins() < than.coins() }

// with returns the bill with so many doors of a model more, by the set of models whose fees are in it.
func (b bill) with(model offer, count, paid int) bill {
	if paid&bit(model.index) == 0 {
		b.fees += model.Fee
	}
	b.prices += count * model.Price
	return b
}

// cheapest returns the first one of the plans that cost least, and what it costs.
func (x shop) cheapest() ([]int, bill) {
	best, plan, trial := noBill, []int(nil), make([]int, len(x.openings))
	var look func(opening, paid int, b bill)
	look = func(opening, paid int, b bill) {
		// Further doors make nothing cheaper. Plans are looked at in their order, so one that costs just as much comes too late.
		if !b.isLess(best) {
			return
		}
		if opening == len(x.openings) {
			best, plan = b, slices.Clone(trial)
			return
		}
		for _, model := range x.fits[opening] {
			trial[opening] = model.index
			look(opening+1, paid|bit(model.index), b.with(model, x.openings[opening].Count, paid))
		}
	}
	look(0, 0, bill{})
	return plan, best
}
