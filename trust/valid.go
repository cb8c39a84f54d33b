package trust

import (
	"slices"

	"cottonpad/api"
)

// within returns whether all of some numbers are in a span.
func within(s api.Span, numbers ...int) bool {
	for _, n := range numbers {
		if n < s.Lo || n > s.Hi {
			return false
		}
	}
	return true
}

// upTo are all numbers from 0 to one.
func upTo(greatest int) api.Span { return api.Span{Lo: 0, Hi: greatest} }

// oneTo are all numbers from 1 to one.
func oneTo(greatest int) api.Span { return api.Span{Lo: 1, Hi: greatest} }

// areById returns whether things are in increasing order of their Ids, no two with the same one, each from 0 to MaxId.
func areById[T any](list []T, id func(thing T) int) bool {
	least := 0
	for _, thing := range list {
		if !within(api.Span{Lo: least, Hi: api.MaxId}, id(thing)) {
			return false
		}
		least = id(thing) + 1
	}
	return true
}

// areIn returns whether there are records with all of some Ids.
func areIn(records []api.Record, ids ...int) bool {
	for _, id := range ids {
		if !slices.ContainsFunc(records, func(r api.Record) bool { return r.Id == id }) {
			return false
		}
	}
	return true
}

func areRecords(records []api.Record) bool {
	if len(records) > api.MaxRecords || !areById(records, func(r api.Record) int { return r.Id }) {
		return false
	}
	for i, r := range records {
		if !hasItsWays(r, records[:i]) {
			return false
		}
	}
	return true
}

// hasItsWays returns whether a record has ways that its kind has, by the records before it.
func hasItsWays(r api.Record, before []api.Record) bool {
	switch r.Kind {
	case api.RecFactory, api.RecDrawing:
		return len(r.Ways) == 0
	case api.RecBatch, api.RecCertificate:
		isWrong := func(way []int) bool { return !isWay(way, before) }
		return within(oneTo(api.MaxWays), len(r.Ways)) && !slices.ContainsFunc(r.Ways, isWrong)
	}
	return false
}

func isWay(way []int, before []api.Record) bool {
	return within(oneTo(api.MaxNeeds), len(way)) && areById(way, func(id int) int { return id }) && areIn(before, way...)
}

// areLetters returns whether letters about records are valid.
func areLetters(letters []api.Letter, records []api.Record) bool {
	if len(letters) > api.MaxLetters || !areById(letters, func(l api.Letter) int { return l.Id }) {
		return false
	}
	for _, l := range letters {
		kinds := api.Span{Lo: api.LetterWithdraw, Hi: api.LetterRestore}
		if !within(upTo(api.MaxDay), l.Day) || !within(kinds, int(l.Kind)) || !areIn(records, l.About) {
			return false
		}
	}
	return true
}

// areMoves returns whether moves of batches that are among records are valid.
func areMoves(moves []api.Move, records []api.Record) bool {
	if len(moves) > api.MaxMoves || !areById(moves, func(m api.Move) int { return m.Id }) {
		return false
	}
	for _, m := range moves {
		kinds := api.Span{Lo: api.MoveMade, Hi: api.MoveScrapped}
		isBatch := func(r api.Record) bool { return r.Id == m.Batch && r.Kind == api.RecBatch }
		if !within(kinds, int(m.Kind)) || !within(oneTo(api.MaxPieces), m.Pieces) || !slices.ContainsFunc(records, isBatch) {
			return false
		}
	}
	return !slices.ContainsFunc(records, func(r api.Record) bool { return !balances(storeOfOne(moves, r.Id)) })
}
