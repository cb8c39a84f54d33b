package trust_test

import (
	"slices"
	"testing"

	"cottonpad/api"
)

func expectHolds(t *testing.T, name any, s scene, day int, want ...int) {
	t.Helper()
	if ids := s.holds(t, day); !slices.Equal(ids, want) {
		t.Error(name, "Holds", day, ids, want)
	}
}

func expectTakes(t *testing.T, name any, s scene, day, id int, want ...int) {
	t.Helper()
	if ids := s.takes(t, day, id); !slices.Equal(ids, want) {
		t.Error(name, "Takes", day, id, ids, want)
	}
}

// expectRests checks what a record rests on, and that it has no causes, since it holds.
func expectRests(t *testing.T, name any, s scene, day, id int, want ...int) {
	t.Helper()
	if ids, holds := s.rests(t, day, id); !holds || !slices.Equal(ids, want) {
		t.Error(name, "Rests", day, id, ids, want)
	}
	if ids, any := s.causes(t, day, id); any || len(ids) > 0 {
		t.Error(name, "Causes", day, id, ids)
	}
}

// expectCauses checks why a record does not hold, and that it rests on nothing.
func expectCauses(t *testing.T, name any, s scene, day, id int, want ...int) {
	t.Helper()
	if ids, any := s.causes(t, day, id); !any || !slices.Equal(ids, want) {
		t.Error(name, "Causes", day, id, ids, want)
	}
	if ids, holds := s.rests(t, day, id); holds || len(ids) > 0 {
		t.Error(name, "Rests", day, id, ids)
	}
}

func expectPieces(t *testing.T, name any, s scene, id int, want api.Store) {
	t.Helper()
	if x := s.pieces(t, id); x != want {
		t.Error(name, "Pieces", id, x, want)
	}
}

func expectRecall(t *testing.T, name any, s scene, day, pieces int, batches ...int) {
	t.Helper()
	if ids, n := s.recall(t, day); n != pieces || !slices.Equal(ids, batches) {
		t.Error(name, "Recall", day, ids, n, batches, pieces)
	}
}

// TestExamples: those of the chapter, and the one of DOC.md (P8.1 to P8.6).
func TestExamples(t *testing.T) {
	s := example()
	expectHolds(t, "example", s, 5, 1, 2, 3, 4, 5, 6, 7)
	expectHolds(t, "example", s, 10, 2, 4, 5, 6, 7)
	expectHolds(t, "example", s, 20, 1, 2, 3, 6)
	expectTakes(t, "example", s, 10, 4, 4, 5, 6, 7)
	expectTakes(t, "example", s, 5, 4, 4, 5, 7)
	expectRests(t, "example", s, 10, 7, 2, 4, 5, 6, 7)
	expectRests(t, "example", s, 5, 6, 1, 2, 3, 6)
	expectCauses(t, "example", s, 10, 3, 1)
	expectCauses(t, "example", s, 20, 7, 4)
	expectPieces(t, "example", s, 3, api.Store{Made: 50, Returned: 5, Tested: 3, Sold: 20, Left: 32})
	expectPieces(t, "example", s, 2, api.Store{Made: 80, Returned: 5, Tested: 3, Sold: 50, Left: 32})
	expectRecall(t, "example", s, 10, 15, 3)
	expectRecall(t, "example", s, 20, 30, 5)
	// What the other days and records are like.
	expectHolds(t, "before", s, 9, 1, 2, 3, 4, 5, 6, 7)
	expectHolds(t, "between", s, 19, 2, 4, 5, 6, 7)
	expectHolds(t, "later", s, api.MaxDay, 1, 2, 3, 6)
	expectRests(t, "later", s, 20, 6, 1, 2, 3, 6)
	expectRests(t, "between", s, 10, 6, 2, 4, 5, 6)
	expectCauses(t, "later", s, 20, 5, 4)
	expectPieces(t, "factory", s, 1, s.pieces(t, 3))
	expectPieces(t, "factory", s, 4, api.Store{Made: 30, Sold: 30})
	expectPieces(t, "certificate", s, 6, api.Store{})
	expectRecall(t, "before", s, 9, 0)
}

// TestNothing: no records at all, and with none there are no letters and no moves (P8.1, P8.6).
func TestNothing(t *testing.T) {
	for _, day := range list(0, 1, api.MaxDay) {
		expectHolds(t, "nothing", scene{}, day)
		expectRecall(t, "nothing", scene{}, day, 0)
	}
	expectError(t, "nothing", scene{}, api.OK)
	expectErrorWithId(t, "nothing", scene{}, 0, 0, api.ErrNone)
	expectError(t, "letter", scene{l: []api.Letter{withdraw(0, 0, 0)}}, api.ErrLetters)
	expectErrorOfMoves(t, "move", scene{m: []api.Move{move(0, 0, api.MoveMade, 1)}}, api.ErrMoves)
}

// TestAlone: a record without Ways (P8.1 to P8.4).
func TestAlone(t *testing.T) {
	for _, r := range []api.Record{factory(0), drawing(0)} {
		s := scene{r: []api.Record{r}}
		expectHolds(t, r, s, 0, 0)
		expectTakes(t, r, s, 0, 0, 0)
		expectRests(t, r, s, 0, 0, 0)
		expectPieces(t, r, s, 0, api.Store{})
		s = s.lettered(withdraw(0, 3, 0))
		expectRests(t, r, s, 2, 0, 0)
		expectHolds(t, r, s, 3)
		expectTakes(t, r, s, 3, 0)
		expectCauses(t, r, s, 3, 0, 0)
	}
}

// TestKinds: a way may name a record of any kind before it, whatever the record itself is (P8.1 to P8.4).
func TestKinds(t *testing.T) {
	s := scene{r: []api.Record{
		factory(1), drawing(2), batch(3, list(1)), certificate(4, list(2)),
		batch(5, list(1, 2, 3, 4)), certificate(6, list(1, 2, 3, 5)), batch(7, list(6)), certificate(8, list(4), list(7)),
	}}
	expectHolds(t, "all", s, 0, 1, 2, 3, 4, 5, 6, 7, 8)
	expectTakes(t, "factory", s, 0, 1, 1, 3, 5, 6, 7)
	expectTakes(t, "drawing", s, 0, 2, 2, 4, 5, 6, 7, 8)
	expectTakes(t, "batch", s, 0, 3, 3, 5, 6, 7)
	expectTakes(t, "certificate", s, 0, 4, 4, 5, 6, 7, 8)
	expectTakes(t, "last", s, 0, 8, 8)
	expectRests(t, "batch of a certificate", s, 0, 7, 1, 2, 3, 4, 5, 6, 7)
	expectRests(t, "certificate", s, 0, 8, 2, 4, 8)
	s = s.lettered(withdraw(0, 1, 4))
	expectRests(t, "still", s, 0, 8, 2, 4, 8)
	expectCauses(t, "certificate", s, 1, 8, 4)
	expectHolds(t, "certificate", s, 1, 1, 2, 3)
}

// TestWays: several ways, of which all, just one, or none holds (P8.1 to P8.4).
func TestWays(t *testing.T) {
	s := scene{r: []api.Record{factory(1), factory(2), factory(3), factory(4), certificate(9, list(1, 2), list(2, 3), list(3, 4))}}
	for _, x := range []struct {
		withdrawn []int
		rests     []int // none if it does not hold
		causes    []int
	}{
		{nil, list(1, 2, 9), nil}, {list(1), list(2, 3, 9), nil}, {list(2), list(3, 4, 9), nil}, {list(3), list(1, 2, 9), nil}, {list(4), list(1, 2, 9), nil},
		{list(1, 2), list(3, 4, 9), nil}, {list(1, 3), nil, list(1)}, {list(1, 4), list(2, 3, 9), nil}, {list(2, 3), nil, list(2)}, {list(2, 4), nil, list(2)}, {list(3, 4), list(1, 2, 9), nil},
		{list(1, 2, 3), nil, list(3)}, {list(1, 2, 4), nil, list(2)}, {list(1, 3, 4), nil, list(1)}, {list(2, 3, 4), nil, list(2)}, {list(1, 2, 3, 4), nil, list(1, 2)},
		{list(9), nil, list(9)}, {list(1, 9), nil, list(9)}, {list(1, 3, 9), nil, list(1, 9)}, {list(1, 2, 3, 4, 9), nil, list(1, 2, 9)},
	} {
		s := s.more(0, api.LetterWithdraw, x.withdrawn...)
		if x.rests != nil {
			expectRests(t, x, s, 0, 9, x.rests...)
			expectHolds(t, x, s, 0, minus(s.ids(), x.withdrawn)...)
			expectTakes(t, x, s, 0, 9, 9)
			continue
		}
		expectCauses(t, x, s, 0, 9, x.causes...)
		expectHolds(t, x, s, 0, minus(list(1, 2, 3, 4), x.withdrawn)...)
		expectTakes(t, x, s, 0, 9)
	}
	// With just one way left, what it names takes the record with it.
	expectTakes(t, "one way", s, 0, 2, 2)
	expectTakes(t, "one way", s.more(0, api.LetterWithdraw, 4), 0, 2, 2, 9)
	expectTakes(t, "one way", s.more(0, api.LetterWithdraw, 3), 0, 1, 1, 9)
	expectTakes(t, "one way", s.more(0, api.LetterWithdraw, 3), 0, 4, 4)
}

// TestOneDay: of several letters about one record on one day that with the greatest Id counts, of several days the latest one, whatever their Ids (P8.1).
func TestOneDay(t *testing.T) {
	s := scene{r: []api.Record{factory(1), factory(2)}}
	expectHolds(t, "restored", s.lettered(withdraw(0, 5, 1), restore(0, 5, 1)), 5, 1, 2)
	expectHolds(t, "withdrawn", s.lettered(restore(0, 5, 1), withdraw(0, 5, 1)), 5, 2)
	expectHolds(t, "thrice", s.lettered(withdraw(0, 5, 1), restore(0, 5, 1), withdraw(0, 5, 1)), 5, 2)
	expectHolds(t, "of another one", s.lettered(withdraw(0, 5, 1), restore(0, 5, 2)), 5, 2)
	expectHolds(t, "of another one", s.lettered(withdraw(0, 5, 2), restore(0, 5, 1), withdraw(0, 5, 2)), 5, 1)
	// The letter of the later day comes first by its Id.
	x := s.lettered(restore(0, 6, 1), withdraw(0, 5, 1))
	expectHolds(t, "before", x, 4, 1, 2)
	expectHolds(t, "on it", x, 5, 2)
	expectHolds(t, "after", x, 6, 1, 2)
	x = s.lettered(withdraw(0, 6, 1), restore(0, 5, 1), withdraw(0, 4, 1), restore(0, 7, 1))
	expectHolds(t, "4", x, 4, 2)
	expectHolds(t, "5", x, 5, 1, 2)
	expectHolds(t, "6", x, 6, 2)
	expectHolds(t, "7", x, 7, 1, 2)
}

// TestLaterDay: letters of a later day change nothing before it (P8.1 to P8.4).
func TestLaterDay(t *testing.T) {
	s := example().lettered(withdraw(0, 8, 2), withdraw(0, 9, 4), restore(0, 10, 2))
	expectHolds(t, "later", s, 7, 1, 2, 3, 4, 5, 6, 7)
	expectRests(t, "later", s, 7, 7, 2, 4, 5, 6, 7)
	expectTakes(t, "later", s, 7, 2, 2, 3, 5, 6, 7)
	expectHolds(t, "one", s, 8, 1, 4)
	expectCauses(t, "one", s, 8, 7, 2)
	expectHolds(t, "two", s, 9, 1)
	expectCauses(t, "two", s, 9, 7, 2, 4)
	expectHolds(t, "restored", s, 10, 1, 2, 3, 6)
	expectCauses(t, "restored", s, 10, 7, 4)
}

// TestRestored: withdrawn and restored, withdrawn twice, and restored without having been withdrawn (P8.1, P8.8).
func TestRestored(t *testing.T) {
	s := scene{r: []api.Record{factory(1), batch(2, list(1))}}
	expectHolds(t, "restored alone", s.lettered(restore(0, 3, 1)), 3, 1, 2)
	expectHolds(t, "withdrawn after it", s.lettered(restore(0, 3, 1), withdraw(0, 4, 1)), 4)
	x := s.lettered(withdraw(0, 3, 1), restore(0, 5, 1))
	expectHolds(t, "withdrawn", x, 4)
	expectHolds(t, "restored", x, 5, 1, 2)
	x = s.lettered(withdraw(0, 3, 1), withdraw(0, 4, 1), restore(0, 5, 1))
	expectHolds(t, "twice", x, 4)
	expectHolds(t, "one is enough", x, 5, 1, 2)
	x = s.lettered(withdraw(0, 3, 1), restore(0, 4, 1), restore(0, 5, 1), withdraw(0, 6, 1))
	expectHolds(t, "restored twice", x, 5, 1, 2)
	expectHolds(t, "one is enough", x, 6)
	x = s.lettered(withdraw(0, 3, 1), withdraw(0, 3, 2), restore(0, 4, 1), restore(0, 5, 2))
	expectHolds(t, "one of two", x, 4, 1)
	expectCauses(t, "one of two", x, 4, 2, 2)
	expectHolds(t, "both", x, 5, 1, 2)
}

// TestDays: the day 0 and the greatest one (P8.1 to P8.4, P8.6).
func TestDays(t *testing.T) {
	s := example().lettered(withdraw(0, 0, 4), restore(0, api.MaxDay, 4))
	for _, day := range list(0, 1, api.MaxDay-1) {
		expectHolds(t, "withdrawn", s, day, 1, 2, 3, 6)
		expectCauses(t, "withdrawn", s, day, 7, 4)
		expectTakes(t, "withdrawn", s, day, 4)
		expectRecall(t, "withdrawn", s, day, 30, 5)
	}
	expectHolds(t, "restored", s, api.MaxDay, 1, 2, 3, 4, 5, 6, 7)
	expectRests(t, "restored", s, api.MaxDay, 7, 2, 4, 5, 6, 7)
	expectTakes(t, "restored", s, api.MaxDay, 4, 4, 5, 7)
	expectRecall(t, "restored", s, api.MaxDay, 0)
}

// TestNotHolding: a record that does not hold on its own account, by what it hangs on, or both (P8.2, P8.4).
func TestNotHolding(t *testing.T) {
	s := scene{r: []api.Record{factory(1), batch(2, list(1)), certificate(3, list(2))}}
	own := s.lettered(withdraw(0, 0, 3))
	expectHolds(t, "own", own, 0, 1, 2)
	expectTakes(t, "own", own, 0, 3)
	expectTakes(t, "own", own, 0, 1, 1, 2)
	expectCauses(t, "own", own, 0, 3, 3)
	hung := s.lettered(withdraw(0, 0, 1))
	expectHolds(t, "hung", hung, 0)
	for _, id := range list(1, 2, 3) {
		expectTakes(t, "hung", hung, 0, id)
		expectCauses(t, "hung", hung, 0, id, 1)
	}
	both := s.lettered(withdraw(0, 0, 1), withdraw(0, 0, 3))
	expectCauses(t, "both", both, 0, 2, 1)
	expectCauses(t, "both", both, 0, 3, 1, 3)
	all := s.lettered(withdraw(0, 0, 1), withdraw(0, 0, 2), withdraw(0, 0, 3))
	expectCauses(t, "all", all, 0, 1, 1)
	expectCauses(t, "all", all, 0, 2, 1, 2)
	expectCauses(t, "all", all, 0, 3, 1, 2, 3)
}

// TestItself: a record that does not hold with nothing that could be restored but itself (P8.4).
func TestItself(t *testing.T) {
	s := scene{r: []api.Record{factory(1), factory(2), certificate(5, list(1), list(2))}}
	expectCauses(t, "itself", s.lettered(withdraw(0, 0, 5)), 0, 5, 5)
	expectCauses(t, "one way holds", s.lettered(withdraw(0, 0, 1), withdraw(0, 0, 5)), 0, 5, 5)
	expectCauses(t, "no way holds", s.lettered(withdraw(0, 0, 1), withdraw(0, 0, 2), withdraw(0, 0, 5)), 0, 5, 1, 5)
	expectCauses(t, "factory", s.lettered(withdraw(0, 0, 1), withdraw(0, 0, 5)), 0, 1, 1)
}

// TestFirstLists: of several lists of the fewest records the first one is told, and no longer one that comes before it (P8.3, P8.4).
func TestFirstLists(t *testing.T) {
	s := scene{r: []api.Record{factory(1), factory(2), factory(3), certificate(9, list(3), list(2), list(1))}}
	expectRests(t, "order of ways", s, 0, 9, 1, 9)
	expectRests(t, "next", s.more(0, api.LetterWithdraw, 1), 0, 9, 2, 9)
	expectCauses(t, "order of ways", s.more(0, api.LetterWithdraw, 1, 2, 3), 0, 9, 1)
	// Fewer records are told, also if others come before them.
	s = scene{r: []api.Record{factory(1), factory(2), factory(3), certificate(9, list(1, 2), list(3))}}
	expectRests(t, "fewer", s, 0, 9, 3, 9)
	expectCauses(t, "fewer", s.more(0, api.LetterWithdraw, 1, 2, 3), 0, 9, 3)
	expectCauses(t, "as few", s.more(0, api.LetterWithdraw, 2, 3), 0, 9, 2)
	// What a way names may have needs, too: the shorter way is the longer one.
	s = scene{r: []api.Record{factory(1), factory(2), drawing(3), batch(4, list(1, 2, 3)), certificate(9, list(4), list(1, 2, 3))}}
	expectRests(t, "deep", s, 0, 9, 1, 2, 3, 9)
	s.r[4].Ways[1] = list(1, 4)
	expectRests(t, "deep", s, 0, 9, 1, 2, 3, 4, 9)
	// The lists differ first in an Id between: 1 2 7 9 comes before 1 3 4 9.
	s = scene{r: []api.Record{factory(1), factory(2), factory(3), factory(4), factory(7), certificate(9, list(1, 3, 4), list(1, 2, 7))}}
	expectRests(t, "between", s, 0, 9, 1, 2, 7, 9)
	expectCauses(t, "between", s.more(0, api.LetterWithdraw, 2, 3, 4, 7), 0, 9, 2, 7)
	expectCauses(t, "all", s.more(0, api.LetterWithdraw, 1, 2, 3, 4, 7), 0, 9, 1, 2, 7)
	// Two records that share what they need: together they are fewer than apart.
	s = scene{r: []api.Record{
		factory(1), factory(2), factory(3), batch(4, list(1), list(3)), batch(5, list(2), list(3)), certificate(9, list(4, 5)),
	}}
	expectRests(t, "shared", s, 0, 9, 3, 4, 5, 9)
	expectRests(t, "apart", s.more(0, api.LetterWithdraw, 3), 0, 9, 1, 2, 4, 5, 9)
	expectCauses(t, "shared", s.more(0, api.LetterWithdraw, 1, 2, 3), 0, 9, 3)
	expectCauses(t, "one each", s.more(0, api.LetterWithdraw, 1, 3), 0, 9, 1)
}

// TestStore: each kind of moves counts for itself, and adds to what is left, or takes of it (P8.5, P8.10).
func TestStore(t *testing.T) {
	s := scene{r: []api.Record{factory(1), batch(2, list(1))}}
	s.m = []api.Move{
		move(0, 2, api.MoveMade, 1000), move(1, 2, api.MoveSold, 100), move(2, 2, api.MoveReturned, 10), move(3, 2, api.MoveTested, 1), move(4, 2, api.MoveScrapped, 200),
	}
	want := api.Store{Made: 1000, Returned: 10, Tested: 1, Sold: 100, Scrapped: 200, Left: 709}
	expectPieces(t, "store", s, 2, want)
	expectPieces(t, "store", s, 1, want)
	expectPieces(t, "none", s.with(func(s *scene) { s.m = nil }), 2, api.Store{})
	s = s.with(func(s *scene) { s.m = append(s.m, move(5, 2, api.MoveMade, 5), move(6, 2, api.MoveSold, 7)) })
	expectPieces(t, "twice", s, 2, api.Store{Made: 1005, Returned: 10, Tested: 1, Sold: 107, Scrapped: 200, Left: 707})
}

// TestOrderOfMoves: moves of one batch in another order, also one in which they cannot have come about (P8.5, P8.6, P8.10).
func TestOrderOfMoves(t *testing.T) {
	s, want := example(), []api.Store{example().pieces(t, 3), example().pieces(t, 5)}
	for range 6 {
		last := s.m[0]
		copy(s.m, s.m[1:])
		s.m[5] = last
		for i := range s.m {
			s.m[i].Id = 10 * i
		}
		expectPieces(t, s.m, s, 3, want[0])
		expectPieces(t, s.m, s, 5, want[1])
		expectRecall(t, s.m, s, 10, 15, 3)
	}
	slices.Reverse(s.m)
	expectErrorOfMoves(t, "by Id", s, api.ErrMoves)
}

// TestBalance: no more returned than sold, and no more tested, sold and scrapped than made and returned, of each batch (P8.5, P8.6).
func TestBalance(t *testing.T) {
	made, returned, tested, sold, scrapped := uint8(api.MoveMade), uint8(api.MoveReturned), uint8(api.MoveTested), uint8(api.MoveSold), uint8(api.MoveScrapped)
	type part struct {
		batch  int
		kind   uint8
		pieces int
	}
	for i, x := range []struct {
		parts []part
		e     api.Errno
	}{
		{[]part{{3, made, 1}}, api.OK},
		{[]part{{3, returned, 1}}, api.ErrMoves},
		{[]part{{3, tested, 1}}, api.ErrMoves},
		{[]part{{3, sold, 1}}, api.ErrMoves},
		{[]part{{3, scrapped, 1}}, api.ErrMoves},
		{[]part{{3, sold, 10}, {3, made, 10}}, api.OK},
		{[]part{{3, sold, 10}, {3, made, 9}}, api.ErrMoves},
		{[]part{{3, sold, 11}, {3, made, 10}}, api.ErrMoves},
		{[]part{{3, tested, 10}, {3, made, 10}}, api.OK},
		{[]part{{3, tested, 11}, {3, made, 10}}, api.ErrMoves},
		{[]part{{3, scrapped, 10}, {3, made, 10}}, api.OK},
		{[]part{{3, scrapped, 11}, {3, made, 10}}, api.ErrMoves},
		{[]part{{3, made, 10}, {3, sold, 4}, {3, tested, 3}, {3, scrapped, 3}}, api.OK},
		{[]part{{3, made, 10}, {3, sold, 4}, {3, tested, 4}, {3, scrapped, 3}}, api.ErrMoves},
		// What is returned may go away once more, but not more of it than was sold.
		{[]part{{3, made, 10}, {3, sold, 10}, {3, returned, 10}}, api.OK},
		{[]part{{3, made, 10}, {3, sold, 10}, {3, returned, 11}}, api.ErrMoves},
		{[]part{{3, made, 10}, {3, sold, 9}, {3, returned, 10}}, api.ErrMoves},
		{[]part{{3, made, 10}, {3, sold, 15}, {3, returned, 5}}, api.OK},
		{[]part{{3, made, 10}, {3, sold, 16}, {3, returned, 5}}, api.ErrMoves},
		{[]part{{3, made, 10}, {3, sold, 10}, {3, returned, 4}, {3, scrapped, 4}}, api.OK},
		{[]part{{3, made, 10}, {3, sold, 10}, {3, returned, 4}, {3, tested, 5}}, api.ErrMoves},
		{[]part{{3, sold, 5}, {3, returned, 5}}, api.OK},
		{[]part{{3, sold, 5}, {3, returned, 4}}, api.ErrMoves},
		{[]part{{3, tested, 5}, {3, returned, 5}}, api.ErrMoves},
		{[]part{{3, made, 1}, {3, tested, 5}, {3, returned, 5}}, api.ErrMoves},
		// Another batch does not help.
		{[]part{{5, made, 10}, {3, sold, 10}}, api.ErrMoves},
		{[]part{{3, made, 9}, {5, made, 1}, {3, sold, 10}}, api.ErrMoves},
		{[]part{{3, made, 10}, {5, made, 10}, {3, sold, 5}, {5, returned, 5}}, api.ErrMoves},
		{[]part{{3, made, 10}, {5, made, 10}, {3, sold, 10}, {5, sold, 10}, {5, returned, 10}}, api.OK},
	} {
		s := example().with(func(s *scene) { s.m = nil })
		for j, p := range x.parts {
			s.m = append(s.m, move(j, p.batch, p.kind, p.pieces))
		}
		expectErrorOfMoves(t, i, s, x.e)
	}
}

// TestTwoWays: a batch that comes of a record in two ways, or more, is counted once (P8.5, P8.10).
func TestTwoWays(t *testing.T) {
	s := scene{r: []api.Record{
		factory(1), drawing(2), batch(3, list(1, 2), list(1)), batch(4, list(1, 3), list(2, 3)), batch(5, list(3, 4)), batch(6, list(2)),
	}}
	for i, id := range list(3, 4, 5, 6) {
		s.m = append(s.m, move(2*i, id, api.MoveMade, 5000), move(2*i+1, id, api.MoveSold, list(1000, 100, 10, 1)[i]))
	}
	expectPieces(t, "all of one", s, 1, api.Store{Made: 15000, Sold: 1110, Left: 13890})
	expectPieces(t, "drawing", s, 2, api.Store{Made: 20000, Sold: 1111, Left: 18889})
	expectPieces(t, "batch", s, 3, api.Store{Made: 15000, Sold: 1110, Left: 13890})
	expectPieces(t, "later", s, 4, api.Store{Made: 10000, Sold: 110, Left: 9890})
	expectPieces(t, "last", s, 5, api.Store{Made: 5000, Sold: 10, Left: 4990})
	expectPieces(t, "alone", s, 6, api.Store{Made: 5000, Sold: 1, Left: 4999})
}

// TestThroughCertificates: a batch comes of a certificate that it names, but not of what just this one names (P8.5).
func TestThroughCertificates(t *testing.T) {
	s := scene{r: []api.Record{factory(1), drawing(2), certificate(3, list(1)), batch(4, list(3)), batch(5, list(2, 4)), certificate(6, list(5)), batch(7, list(6))}}
	s.m = []api.Move{move(0, 4, api.MoveMade, 100), move(1, 5, api.MoveMade, 10), move(2, 7, api.MoveMade, 1)}
	for id, made := range map[int]int{1: 0, 2: 10, 3: 110, 4: 110, 5: 10, 6: 1, 7: 1} {
		expectPieces(t, "certificates", s, id, api.Store{Made: made, Left: made})
	}
}

// TestNoBatch: records that no batch comes of, and batches of which there are no moves (P8.5).
func TestNoBatch(t *testing.T) {
	s := example()
	s.r = append(s.r, factory(8), drawing(9), batch(10, list(8)))
	for _, id := range list(6, 7, 8, 9, 10) {
		expectPieces(t, "no batch", s, id, api.Store{})
	}
	for _, id := range list(0, 11, -1, api.MaxId) {
		expectErrorOfPieces(t, "no record", s, id, api.ErrNone)
	}
}

// TestRecall: a batch of which nothing was sold, or all was returned, is not called back, nor is one that holds (P8.6).
func TestRecall(t *testing.T) {
	s := scene{r: []api.Record{factory(1), batch(2, list(1)), batch(3, list(1)), batch(4, list(1)), factory(5), batch(6, list(5)), certificate(7, list(2)), batch(8, list(7))}}
	s.m = []api.Move{
		move(0, 2, api.MoveMade, 50), move(1, 2, api.MoveScrapped, 20),
		move(2, 3, api.MoveMade, 50), move(3, 3, api.MoveSold, 30), move(4, 3, api.MoveReturned, 30),
		move(5, 4, api.MoveMade, 50), move(6, 4, api.MoveSold, 30), move(7, 4, api.MoveReturned, 29),
		move(8, 6, api.MoveMade, 50), move(9, 6, api.MoveSold, 40),
		move(10, 8, api.MoveMade, 50), move(11, 8, api.MoveSold, 7),
	}
	expectRecall(t, "none", s, 0, 0)
	expectRecall(t, "factory", s.lettered(withdraw(0, 0, 1)), 0, 8, 4, 8)
	expectRecall(t, "both", s.lettered(withdraw(0, 0, 1), withdraw(0, 0, 5)), 0, 48, 4, 6, 8)
	expectRecall(t, "itself", s.lettered(withdraw(0, 0, 6)), 0, 40, 6)
	expectRecall(t, "nothing sold", s.lettered(withdraw(0, 0, 2)), 0, 7, 8)
	expectRecall(t, "all returned", s.lettered(withdraw(0, 0, 3)), 0, 0)
	expectRecall(t, "one not returned", s.lettered(withdraw(0, 0, 4)), 0, 1, 4)
	expectRecall(t, "through a certificate", s.lettered(withdraw(0, 0, 7)), 0, 7, 8)
	expectRecall(t, "later", s.lettered(withdraw(0, 1, 1)), 0, 0)
	expectRecall(t, "no moves", s.lettered(withdraw(0, 0, 1)).with(func(s *scene) { s.m = nil }), 0, 0)
}

// greatest is a scene with as many records, ways, needs, letters and moves as there may be, and the greatest numbers.
func greatest() scene {
	var s scene
	for i := range api.MaxRecords {
		id := api.MaxId - api.MaxRecords + 1 + i
		if i < 4 {
			s.r = append(s.r, factory(id))
			continue
		}
		first := api.MaxId - api.MaxRecords + 1
		s.r = append(s.r, batch(id, list(first, first+1, first+2, first+3), list(id-4, id-3, id-2, id-1), list(first, id-2)))
	}
	for i := range api.MaxLetters {
		s.l = append(s.l, restore(api.MaxId-api.MaxLetters+1+i, api.MaxDay, s.r[i%api.MaxRecords].Id))
	}
	for i := range api.MaxMoves {
		s.m = append(s.m, move(api.MaxId-api.MaxMoves+1+i, api.MaxId-i%8, api.MoveMade, api.MaxPieces))
	}
	return s
}

// TestGreatest: as many records, ways, needs, letters and moves as there may be (P8.1 to P8.6, R5).
func TestGreatest(t *testing.T) {
	s := greatest()
	first := s.r[0].Id
	expectHolds(t, "greatest", s, api.MaxDay, s.ids()...)
	expectTakes(t, "greatest", s, api.MaxDay, first+1, first+1)
	expectTakes(t, "greatest", s, api.MaxDay, first, append(list(first), s.batches()...)...)
	expectRests(t, "greatest", s, api.MaxDay, api.MaxId, first, first+1, first+2, first+3, api.MaxId)
	all := api.MaxMoves * api.MaxPieces
	expectPieces(t, "greatest", s, first, api.Store{Made: all, Left: all})
	expectPieces(t, "greatest", s, api.MaxId, api.Store{Made: all / 8, Left: all / 8})
	expectRecall(t, "greatest", s, api.MaxDay, 0)
	// All of them are withdrawn, and most pieces are sold.
	for i := range s.l {
		s.l[i].Kind = api.LetterWithdraw
	}
	for i := range s.m[20:] {
		s.m[20+i].Batch, s.m[20+i].Kind = s.m[i].Batch, api.MoveSold
	}
	expectHolds(t, "withdrawn", s, api.MaxDay)
	expectHolds(t, "withdrawn", s, api.MaxDay-1, s.ids()...)
	expectCauses(t, "withdrawn", s, api.MaxDay, api.MaxId, first, first+1, first+2, first+3, api.MaxId)
	expectRecall(t, "withdrawn", s, api.MaxDay, all/2, s.batches()...)
	expectPieces(t, "sold", s, first, api.Store{Made: all / 2, Sold: all / 2})
}

// chain is a scene in which each record hangs on just the one before it.
func chain() scene {
	s := scene{r: []api.Record{factory(0)}}
	for i := 1; i < api.MaxRecords; i++ {
		s.r = append(s.r, batch(i, list(i-1)))
	}
	return s
}

// TestChain: all records hang on the first one (P8.2, P8.3, P8.4).
func TestChain(t *testing.T) {
	s := chain()
	all := s.ids()
	gone := s.more(0, api.LetterWithdraw, all...)
	for i := range all {
		expectTakes(t, "chain", s, 0, i, all[i:]...)
		expectRests(t, "chain", s, 0, i, all[:i+1]...)
		expectCauses(t, "chain", gone, 0, i, all[:i+1]...)
		expectHolds(t, "chain", s.more(0, api.LetterWithdraw, i), 0, all[:i]...)
		expectCauses(t, "chain", s.more(0, api.LetterWithdraw, i), 0, 11, i)
	}
}
