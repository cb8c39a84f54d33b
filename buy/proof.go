package buy

import (
	"iter"
	"slices"

	"cottonpad/api"
)

// A set of models is a number whose bits are their indices.

func bit(i int) int { return 1 << i }

func setOf(list []int) int {
	set := 0
	for _, i := range list {
		set |= bit(i)
	}
	return set
}

// has returns whether a leaf has a set of models.
func has(l api.Leaf, set int) bool {
	in := setOf(l.In)
	return set&in == in && set&setOf(l.Out) == 0
}

// unfit is the index of an opening that no model fits.
type unfit int

// least returns the least of some prices.
func least(first int, others ...int) int {
	for _, n := range others {
		first = min(first, n)
	}
	return first
}

// price returns the least price of the models that fit an opening, but for a set of them. It panics with unfit if there is none.
func (x shop) price(opening, out int) int {
	var prices []int
	for _, model := range x.fits[opening] {
		if out&bit(model.index) == 0 {
			prices = append(prices, model.Price)
		}
	}
	if len(prices) == 0 {
		panic(unfit(opening))
	}
	return least(prices[0], prices[1:]...)
}

// doors returns what all doors cost at least without a set of models, or that there is an opening which no other model fits.
func (x shop) doors(out int) (coins int, void bool) {
	defer func() {
		if _, isUnfit := recover().(unfit); isUnfit {
			coins, void = 0, true
		}
	}()
	for i, o := range x.openings {
		coins += o.Count * x.price(i, out)
	}
	return coins, false
}

// bound returns the bound of a leaf, or that it is void.
func (x shop) bound(l api.Leaf) (coins int, void bool) {
	coins, void = x.doors(setOf(l.Out))
	if void {
		return 0, true
	}
	for _, i := range l.In {
		coins += x.offers[i].Fee
	}
	return coins, false
}

// holds returns whether no plan whose models are a set that a leaf has costs less than a cost, as far as the bound of the leaf tells.
func (x shop) holds(l api.Leaf, cost int) bool {
	coins, void := x.bound(l)
	return void || coins >= cost
}

// proof yields the leaves of the proof of a cost that no plan is below, in their order.
func (x shop) proof(cost int) iter.Seq[api.Leaf] {
	return func(yield func(api.Leaf) bool) { x.proofFrom(api.Leaf{}, cost, yield) }
}

// proofFrom yields those that come of a leaf in which the first models are, In or Out; it returns whether more are asked for.
//
// It ends: a leaf in which all models are is void, or some plan of those of In costs no more than its bound.
func (x shop) proofFrom(l api.Leaf, cost int, yield func(api.Leaf) bool) bool {
	if x.holds(l, cost) {
		return yield(l)
	}
	next := len(l.In) + len(l.Out)
	with := api.Leaf{In: append(slices.Clone(l.In), next), Out: slices.Clone(l.Out)}
	without := api.Leaf{In: slices.Clone(l.In), Out: append(slices.Clone(l.Out), next)}
	return x.proofFrom(with, cost, yield) && x.proofFrom(without, cost, yield)
}

// prove returns whether leaves prove a cost.
func (x shop) prove(leaves []api.Leaf, cost int) bool {
	for _, l := range leaves {
		if !x.holds(l, cost) {
			return false
		}
	}
	for set := range bit(len(x.offers)) {
		if !isHadOnce(leaves, set) {
			return false
		}
	}
	return true
}

// isHadOnce returns whether just one of some leaves has a set of models.
func isHadOnce(leaves []api.Leaf, set int) bool {
	times := 0
	for _, l := range leaves {
		if has(l, set) {
			times++
		}
	}
	return times == 1
}
