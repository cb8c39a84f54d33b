package trust

import (
	"slices"

	"cottonpad/api"
)

// effect is what a kind of moves does to a store: what its pieces add to those that are left, and to what they are added.
type effect struct {
	adds func(pieces int) int
	to   func(s *api.Store) *int
}

// effects returns the effects of all kinds of moves, by their numbers.
func effects() [api.MoveScrapped + 1]effect {
	come := func(pieces int) int { return pieces }
	goAway := func(pieces int) int { return -pieces }
	return [api.MoveScrapped + 1]effect{
		api.MoveMade:     {adds: come, to: func(s *api.Store) *int { return &s.Made }},
		api.MoveReturned: {adds: come, to: func(s *api.Store) *int { return &s.Returned }},
		api.MoveTested:   {adds: goAway, to: func(s *api.Store) *int { return &s.Tested }},
		api.MoveSold:     {adds: goAway, to: func(s *api.Store) *int { return &s.Sold }},
		api.MoveScrapped: {adds: goAway, to: func(s *api.Store) *int { return &s.Scrapped }},
	}
}

// storeOf returns how many pieces there are of some batches, by all moves.
func storeOf(moves []api.Move, batches []int) api.Store {
	var s api.Store
	kinds := effects()
	for _, m := range moves {
		if slices.Contains(batches, m.Batch) {
			kind := kinds[m.Kind]
			*kind.to(&s) += m.Pieces
			s.Left += kind.adds(m.Pieces)
		}
	}
	return s
}

// storeOfOne returns how many pieces there are of one batch.
func storeOfOne(moves []api.Move, batch int) api.Store { return storeOf(moves, []int{batch}) }

// balances returns whether no more pieces are returned than sold, and no more went away than came.
func balances(s api.Store) bool {
	most := s
	most.Returned, most.Left = min(s.Returned, s.Sold), max(s.Left, 0)
	return s == most
}

// batchesOf returns the Ids of the batches that come of a record.
func batchesOf(records []api.Record, id int) []int {
	var batches []int
	for _, r := range records {
		isOfIt := func(need int) bool { return need == id || slices.Contains(batches, need) }
		names := func(way []int) bool { return slices.ContainsFunc(way, isOfIt) }
		if r.Kind == api.RecBatch && (r.Id == id || slices.ContainsFunc(r.Ways, names)) {
			batches = append(batches, r.Id)
		}
	}
	return batches
}

// recall returns the Ids of the batches that do not hold, and of which some pieces were sold and not returned, and how many these are.
func (x archive) recall(moves []api.Move) (batches []int, pieces int) {
	held := x.standing()
	for _, p := range x.papers {
		s := storeOfOne(moves, p.Id)
		if out := s.Sold - s.Returned; held&p.bit == 0 && out > 0 {
			batches = append(batches, p.Id)
			pieces += out
		}
	}
	return batches, pieces
}
