package trust_test

import (
	"math/rand"
	"slices"
	"testing"

	"cottonpad/api"
	"cottonpad/trust"
)

func list(numbers ...int) []int { return numbers }

func factory(id int) api.Record { return api.Record{Id: id, Kind: api.RecFactory} }

func drawing(id int) api.Record { return api.Record{Id: id, Kind: api.RecDrawing} }

func batch(id int, ways ...[]int) api.Record {
	return api.Record{Id: id, Kind: api.RecBatch, Ways: ways}
}

func certificate(id int, ways ...[]int) api.Record {
	return api.Record{Id: id, Kind: api.RecCertificate, Ways: ways}
}

func withdraw(id, day, about int) api.Letter {
	return api.Letter{Id: id, Day: day, About: about, Kind: api.LetterWithdraw}
}

func restore(id, day, about int) api.Letter {
	return api.Letter{Id: id, Day: day, About: about, Kind: api.LetterRestore}
}

func move(id, batch int, kind uint8, pieces int) api.Move {
	return api.Move{Id: id, Batch: batch, Kind: kind, Pieces: pieces}
}

// scene is records, letters and moves.
type scene struct {
	r []api.Record
	l []api.Letter
	m []api.Move
}

// example is that of the chapter's examples.
func example() scene {
	return scene{
		r: []api.Record{factory(1), drawing(2), batch(3, list(1, 2)), factory(4), batch(5, list(2, 4)), certificate(6, list(3), list(5)), certificate(7, list(5, 6))},
		l: []api.Letter{withdraw(1, 10, 1), restore(2, 20, 1), withdraw(3, 20, 4)},
		m: []api.Move{
			move(1, 3, api.MoveMade, 50), move(2, 3, api.MoveSold, 20), move(3, 3, api.MoveReturned, 5), move(4, 3, api.MoveTested, 3),
			move(5, 5, api.MoveMade, 30), move(6, 5, api.MoveSold, 30),
		},
	}
}

func copyWays(ways [][]int) [][]int {
	ways = slices.Clone(ways)
	for i := range ways {
		ways[i] = slices.Clone(ways[i])
	}
	return ways
}

// copied is a scene in memory of its own.
func (s scene) copied() scene {
	s.r, s.l, s.m = slices.Clone(s.r), slices.Clone(s.l), slices.Clone(s.m)
	for i := range s.r {
		s.r[i].Ways = copyWays(s.r[i].Ways)
	}
	return s
}

// with returns a copy with a change.
func (s scene) with(change func(s *scene)) scene {
	s = s.copied()
	change(&s)
	return s
}

// lettered returns a copy with just these letters, whose Ids are in their order.
func (s scene) lettered(letters ...api.Letter) scene {
	return s.with(func(s *scene) { s.l = numbered(letters) })
}

// numbered are letters with Ids in their order.
func numbered(letters []api.Letter) []api.Letter {
	letters = slices.Clone(letters)
	for i := range letters {
		letters[i].Id = i
	}
	return letters
}

// more returns a copy with letters more, of this day, the last ones of all.
func (s scene) more(day int, kind uint8, about ...int) scene {
	letters := slices.Clone(s.l)
	for _, id := range about {
		letters = append(letters, api.Letter{Day: day, About: id, Kind: kind})
	}
	return s.lettered(letters...)
}

// just returns a copy in which just these records are withdrawn, on the day 0.
func (s scene) just(withdrawn []int) scene {
	s.l = nil
	return s.more(0, api.LetterWithdraw, withdrawn...)
}

func (s scene) holds(t *testing.T, day int) []int {
	t.Helper()
	ids, e := trust.Holds(s.r, s.l, day)
	if e != api.OK {
		t.Fatal("Holds", day, e, s)
	}
	return ids
}

func (s scene) takes(t *testing.T, day, id int) []int {
	t.Helper()
	ids, e := trust.Takes(s.r, s.l, day, id)
	if e != api.OK {
		t.Fatal("Takes", day, id, e, s)
	}
	return ids
}

// rests returns what a record rests on, and whether it holds.
func (s scene) rests(t *testing.T, day, id int) ([]int, bool) {
	t.Helper()
	ids, e := trust.Rests(s.r, s.l, day, id)
	if e != api.OK && e != api.ErrBad {
		t.Fatal("Rests", day, id, e, s)
	}
	return ids, e == api.OK
}

// causes returns why a record does not hold, and whether it does not.
func (s scene) causes(t *testing.T, day, id int) ([]int, bool) {
	t.Helper()
	ids, e := trust.Causes(s.r, s.l, day, id)
	if e != api.OK && e != api.ErrBad {
		t.Fatal("Causes", day, id, e, s)
	}
	return ids, e == api.OK
}

func (s scene) pieces(t *testing.T, id int) api.Store {
	t.Helper()
	store, e := trust.Pieces(s.r, s.m, id)
	if e != api.OK {
		t.Fatal("Pieces", id, e, s)
	}
	return store
}

func (s scene) recall(t *testing.T, day int) ([]int, int) {
	t.Helper()
	ids, pieces, e := trust.Recall(s.r, s.l, s.m, day)
	if e != api.OK {
		t.Fatal("Recall", day, e, s)
	}
	return ids, pieces
}

func (s scene) record(id int) api.Record {
	for _, r := range s.r {
		if r.Id == id {
			return r
		}
	}
	panic("no such record")
}

func (s scene) ids() []int {
	var ids []int
	for _, r := range s.r {
		ids = append(ids, r.Id)
	}
	return ids
}

// withdrawn is by the words of the chapter: the latest letter up to a day tells it.
func (s scene) withdrawn(day, id int) bool {
	var late []api.Letter
	for _, l := range s.l {
		if l.About == id && l.Day <= day {
			late = append(late, l)
		}
	}
	slices.SortFunc(late, func(a, b api.Letter) int {
		if a.Day != b.Day {
			return a.Day - b.Day
		}
		return a.Id - b.Id
	})
	return len(late) > 0 && late[len(late)-1].Kind == api.LetterWithdraw
}

// withdrawnOn are the Ids of all records that are withdrawn on a day.
func (s scene) withdrawnOn(day int) []int {
	return only(s.ids(), func(id int) bool { return s.withdrawn(day, id) })
}

// stands tells whether a record holds if just these are withdrawn, by the words of the chapter.
func (s scene) stands(id int, withdrawn []int) bool {
	if slices.Contains(withdrawn, id) {
		return false
	}
	r := s.record(id)
	if len(r.Ways) == 0 {
		return true
	}
	for _, way := range r.Ways {
		broken := 0
		for _, need := range way {
			if !s.stands(need, withdrawn) {
				broken++
			}
		}
		if broken == 0 {
			return true
		}
	}
	return false
}

// standing are the Ids of all records that hold if just these are withdrawn.
func (s scene) standing(withdrawn []int) []int {
	return only(s.ids(), func(id int) bool { return s.stands(id, withdrawn) })
}

// isWhole tells whether each record of a list that has Ways has one all of whose records are in it.
func (s scene) isWhole(ids []int) bool {
	for _, id := range ids {
		r := s.record(id)
		if len(r.Ways) > 0 && !slices.ContainsFunc(r.Ways, func(way []int) bool { return len(minus(way, ids)) == 0 }) {
			return false
		}
	}
	return true
}

// comes tells whether a batch comes of a record, by the words of the chapter.
func (s scene) comes(batch, of int) bool {
	if batch == of {
		return true
	}
	for _, way := range s.record(batch).Ways {
		for _, need := range way {
			if need == of || s.record(need).Kind == api.RecBatch && s.comes(need, of) {
				return true
			}
		}
	}
	return false
}

// batches are the Ids of all batches.
func (s scene) batches() []int {
	return only(s.ids(), func(id int) bool { return s.record(id).Kind == api.RecBatch })
}

// moved are all pieces of one kind of moves of a batch.
func (s scene) moved(batch int, kind uint8) int {
	pieces := 0
	for _, m := range s.m {
		if m.Batch == batch && m.Kind == kind {
			pieces += m.Pieces
		}
	}
	return pieces
}

// store is that of some batches together, by the words of the chapter.
func (s scene) store(batches []int) api.Store {
	var x api.Store
	for _, b := range batches {
		x.Made += s.moved(b, api.MoveMade)
		x.Returned += s.moved(b, api.MoveReturned)
		x.Tested += s.moved(b, api.MoveTested)
		x.Sold += s.moved(b, api.MoveSold)
		x.Scrapped += s.moved(b, api.MoveScrapped)
	}
	x.Left = x.Made + x.Returned - x.Tested - x.Sold - x.Scrapped
	return x
}

// firstOf is the first one of the shortest lists of some Ids of which something is so, by trying one after the other.
func firstOf(ids []int, isSo func(ids []int) bool) []int {
	for count := range len(ids) + 1 {
		var found []int
		any := false
		lists(ids, count, nil, func(list []int) {
			if !any && isSo(list) {
				found, any = slices.Clone(list), true
			}
		})
		if any {
			return found
		}
	}
	panic("there is no such list")
}

// lists calls a function with all lists of so many of some Ids, in their order.
func lists(ids []int, count int, begun []int, see func(list []int)) {
	if len(begun) == count {
		see(begun)
		return
	}
	for i, id := range ids {
		lists(ids[i+1:], count, append(begun, id), see)
	}
}

// howMany is how many lists of some Ids, as long as this, there are of which something is so.
func howMany(ids []int, count int, isSo func(ids []int) bool) int {
	n := 0
	lists(ids, count, nil, func(list []int) {
		if isSo(list) {
			n++
		}
	})
	return n
}

func only(ids []int, isSo func(id int) bool) []int {
	var list []int
	for _, id := range ids {
		if isSo(id) {
			list = append(list, id)
		}
	}
	return list
}

func minus(ids, others []int) []int {
	return only(ids, func(id int) bool { return !slices.Contains(others, id) })
}

func between(g *rand.Rand, lo, hi int) int { return lo + g.Intn(hi-lo+1) }

func someOf[T any](g *rand.Rand, list []T) T { return list[g.Intn(len(list))] }

// someIds are so many numbers from lo to hi, in increasing order, no one twice.
func someIds(g *rand.Rand, count, lo, hi int) []int {
	seen := map[int]bool{}
	for len(seen) < count {
		seen[between(g, lo, hi)] = true
	}
	var ids []int
	for id := range seen {
		ids = append(ids, id)
	}
	slices.Sort(ids)
	return ids
}

// size is how many things a scene may have, of which numbers, and how many records of a hundred hang on others, and how many letters of a hundred withdraw.
type size struct{ records, letters, moves, id, days, pieces, hung, withdraw int }

func small() size {
	return size{records: 6, letters: 6, moves: 12, id: 12, days: 3, pieces: 4, hung: 50, withdraw: 60}
}

func large() size {
	return size{records: api.MaxRecords, letters: api.MaxLetters, moves: api.MaxMoves, id: 40, days: 9, pieces: 30, hung: 60, withdraw: 50}
}

func huge() size {
	return size{records: api.MaxRecords, letters: api.MaxLetters, moves: api.MaxMoves, id: api.MaxId, days: api.MaxDay, pieces: api.MaxPieces, hung: 60, withdraw: 50}
}

// broken are scenes of which most records are withdrawn.
func broken() size {
	return size{records: api.MaxRecords, letters: api.MaxLetters, moves: 6, id: 99, days: 1, pieces: 9, hung: 50, withdraw: 90}
}

// steady are scenes of which most records hold, and hang on others.
func steady() size {
	return size{records: api.MaxRecords, letters: 4, moves: api.MaxMoves, id: 30, days: 2, pieces: 20, hung: 75, withdraw: 40}
}

func sizes() []size { return []size{small(), small(), large(), huge(), broken(), steady()} }

// someWays are any ways that name records before.
func someWays(g *rand.Rand, before []int) [][]int {
	var ways [][]int
	for range between(g, 1, api.MaxWays) {
		var way []int
		for _, i := range someIds(g, between(g, 1, min(api.MaxNeeds, len(before))), 0, len(before)-1) {
			way = append(way, before[i])
		}
		ways = append(ways, way)
	}
	return ways
}

// some is any valid scene of a size.
func (z size) some(g *rand.Rand) scene {
	var s scene
	for i, id := range someIds(g, between(g, 1, z.records), 0, z.id) {
		r := api.Record{Id: id, Kind: uint8(between(g, api.RecFactory, api.RecDrawing))}
		if i > 0 && g.Intn(100) < z.hung {
			r.Kind, r.Ways = uint8(between(g, api.RecBatch, api.RecCertificate)), someWays(g, s.ids())
		}
		s.r = append(s.r, r)
	}
	for _, id := range someIds(g, between(g, 0, z.letters), 0, max(z.id, z.letters)) {
		l := restore(id, between(g, 0, z.days), someOf(g, s.r).Id)
		if g.Intn(100) < z.withdraw {
			l.Kind = api.LetterWithdraw
		}
		s.l = append(s.l, l)
	}
	s.m = z.someMoves(g, s.batches())
	return s
}

// someMoves are any valid moves of some batches, not in the order in which they can come about.
func (z size) someMoves(g *rand.Rand, batches []int) []api.Move {
	if len(batches) == 0 {
		return nil
	}
	var moves []api.Move
	count := between(g, 0, z.moves)
	for range 3 * count {
		m := move(0, someOf(g, batches), uint8(between(g, api.MoveMade, api.MoveScrapped)), between(g, 1, z.pieces))
		if g.Intn(3) == 0 {
			m.Kind = api.MoveMade
		}
		if len(moves) < count {
			moves = grown(moves, m)
		}
	}
	g.Shuffle(len(moves), func(i, j int) { moves[i], moves[j] = moves[j], moves[i] })
	for i, id := range someIds(g, len(moves), 0, max(z.id, z.moves)) {
		moves[i].Id = id
	}
	return moves
}

// grown are moves with one more, of no more pieces than there are, or without it if there are none.
func grown(moves []api.Move, m api.Move) []api.Move {
	s := scene{m: moves}.store(list(m.Batch))
	switch m.Kind {
	case api.MoveReturned:
		m.Pieces = min(m.Pieces, s.Sold-s.Returned)
	case api.MoveTested, api.MoveSold, api.MoveScrapped:
		m.Pieces = min(m.Pieces, s.Left)
	}
	if m.Pieces < 1 {
		return moves
	}
	return append(moves, m)
}

// someDay is one of a letter, the one before it, or any other one.
func (s scene) someDay(g *rand.Rand) int {
	if len(s.l) == 0 || g.Intn(10) == 0 {
		return g.Intn(api.MaxDay + 1)
	}
	return max(0, someOf(g, s.l).Day-g.Intn(2))
}

func (s scene) someId(g *rand.Rand) int { return someOf(g, s.r).Id }
