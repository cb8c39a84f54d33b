package trust_test

import (
	"math"
	"slices"
	"testing"

	"cottonpad/api"
	"cottonpad/trust"
)

// beyond are numbers that are far outside of all spans.
func beyond() []int {
	return []int{math.MinInt, math.MinInt + 1, math.MinInt32 - 1, math.MaxInt32 + 1, math.MaxInt - 1, math.MaxInt}
}

// expectErrorOfDay checks the error of Holds, and of Recall, on a day.
func expectErrorOfDay(t *testing.T, name any, s scene, day int, want api.Errno) {
	t.Helper()
	if ids, e := trust.Holds(s.r, s.l, day); e != want || e != api.OK && len(ids) > 0 {
		t.Error(name, "Holds", day, ids, e, want)
	}
	if ids, pieces, e := trust.Recall(s.r, s.l, s.m, day); e != want || e != api.OK && (len(ids) > 0 || pieces != 0) {
		t.Error(name, "Recall", day, ids, pieces, e, want)
	}
}

// expectErrorWithId checks the error of all functions with letters and an Id.
func expectErrorWithId(t *testing.T, name any, s scene, day, id int, want api.Errno) {
	t.Helper()
	if ids, e := trust.Takes(s.r, s.l, day, id); e != want || e != api.OK && len(ids) > 0 {
		t.Error(name, "Takes", day, id, ids, e, want)
	}
	rests, e := trust.Rests(s.r, s.l, day, id)
	if e != api.OK && len(rests) > 0 || e != want && (want != api.OK || e != api.ErrBad) {
		t.Error(name, "Rests", day, id, rests, e, want)
	}
	causes, f := trust.Causes(s.r, s.l, day, id)
	if f != api.OK && len(causes) > 0 || f != want && (want != api.OK || f != api.ErrBad) {
		t.Error(name, "Causes", day, id, causes, f, want)
	}
	// A record holds, or it does not.
	if want == api.OK && (e == api.ErrBad) == (f == api.ErrBad) {
		t.Error(name, "Rests and Causes", day, id, e, f)
	}
}

// expectErrorOfPieces checks the error of Pieces.
func expectErrorOfPieces(t *testing.T, name any, s scene, id int, want api.Errno) {
	t.Helper()
	if store, e := trust.Pieces(s.r, s.m, id); e != want || e != api.OK && store != (api.Store{}) {
		t.Error(name, "Pieces", id, store, e, want)
	}
}

// expectErrorOfMoves checks the error of Pieces and Recall with moves of valid records; what is wrong with them comes before the other arguments.
func expectErrorOfMoves(t *testing.T, name any, s scene, want api.Errno) {
	t.Helper()
	day, id := want, want
	if want == api.OK {
		day, id = api.ErrArg, api.ErrNone
		expectErrorOfPieces(t, name, s, s.r[0].Id, api.OK)
		expectErrorOfDay(t, name, s, 0, api.OK)
	}
	for _, n := range append(beyond(), -1, api.MaxDay+1) {
		expectErrorOfPieces(t, name, s, n, id)
		if ids, pieces, e := trust.Recall(s.r, s.l, s.m, n); e != day || len(ids) > 0 || pieces != 0 {
			t.Error(name, "Recall", n, ids, pieces, e, day)
		}
	}
}

// expectError checks the error of all functions with records and letters; what is wrong with them comes before the other arguments.
func expectError(t *testing.T, name any, s scene, want api.Errno) {
	t.Helper()
	if e := trust.Check(s.r, s.l); e != want {
		t.Error(name, "Check", e, want)
	}
	hopeless := s.with(func(s *scene) { s.m = []api.Move{{Batch: -1}} })
	pieces := want
	if want != api.ErrRecords {
		pieces = api.ErrMoves
	}
	expectErrorOfPieces(t, name, hopeless, -1, pieces)
	arg := want
	if want == api.OK {
		arg = api.ErrArg
		expectErrorOfDay(t, name, s, 0, api.OK)
		for _, r := range s.r {
			expectErrorWithId(t, name, s, 0, r.Id, api.OK)
		}
		expectErrorWithId(t, name, s, 0, -1, api.ErrNone)
	} else {
		expectErrorOfDay(t, name, hopeless, -1, want)
	}
	expectErrorOfDay(t, name, s, -1, arg)
	expectErrorWithId(t, name, s, -1, -1, arg)
}

// wrongLetters returns a copy with a letter that is not valid, so that it shows what is checked before it.
func (s scene) wrongLetters() scene {
	return s.with(func(s *scene) { s.l = append(s.l, api.Letter{About: -1}) })
}

// plain is a scene in which most numbers may be changed without touching others.
func plain() scene {
	return scene{
		r: []api.Record{factory(10), drawing(20), factory(25), batch(30, list(25)), batch(35, list(25)), certificate(40, list(25))},
		l: []api.Letter{withdraw(3, 7, 30), restore(5, 8, 30), withdraw(6, 9, 30)},
		m: []api.Move{move(0, 30, api.MoveMade, 50), move(2, 30, api.MoveSold, 20), move(3, 30, api.MoveReturned, 5), move(4, 35, api.MoveMade, 1)},
	}
}

// expectErrorIn checks the error of what is wrong with a scene, if anything is: its records, its letters, or its moves.
func expectErrorIn(t *testing.T, name any, s scene, want api.Errno) {
	t.Helper()
	switch want {
	case api.OK:
		expectError(t, name, s, want)
		expectErrorOfMoves(t, name, s, want)
	case api.ErrRecords:
		expectError(t, name, s, want)
		expectError(t, name, s.wrongLetters(), want)
	case api.ErrLetters:
		expectError(t, name, s, want)
	case api.ErrMoves:
		expectErrorOfMoves(t, name, s, want)
		expectError(t, name, s.wrongLetters(), api.ErrLetters)
	}
}

// P8.1, P8.5, R5 and R6: each number of records, letters and moves at its bounds, beyond them, and far beyond them.
func TestBounds(t *testing.T) {
	for _, b := range []struct {
		name   string
		field  func(s *scene) *int
		lo, hi int
		e      api.Errno
	}{
		{"id of the first record", func(s *scene) *int { return &s.r[0].Id }, 0, 19, api.ErrRecords},
		{"id of a record", func(s *scene) *int { return &s.r[1].Id }, 11, 24, api.ErrRecords},
		{"id of the last record", func(s *scene) *int { return &s.r[5].Id }, 36, 9999, api.ErrRecords},
		{"id of the first letter", func(s *scene) *int { return &s.l[0].Id }, 0, 4, api.ErrLetters},
		{"id of a letter", func(s *scene) *int { return &s.l[1].Id }, 4, 5, api.ErrLetters},
		{"id of the last letter", func(s *scene) *int { return &s.l[2].Id }, 6, 9999, api.ErrLetters},
		{"day", func(s *scene) *int { return &s.l[0].Day }, 0, 100000, api.ErrLetters},
		{"day of the last letter", func(s *scene) *int { return &s.l[2].Day }, 0, 100000, api.ErrLetters},
		{"id of the first move", func(s *scene) *int { return &s.m[0].Id }, 0, 1, api.ErrMoves},
		{"id of a move", func(s *scene) *int { return &s.m[1].Id }, 1, 2, api.ErrMoves},
		{"id of the last move", func(s *scene) *int { return &s.m[3].Id }, 4, 9999, api.ErrMoves},
		{"made", func(s *scene) *int { return &s.m[0].Pieces }, 15, 100000, api.ErrMoves},
		{"sold", func(s *scene) *int { return &s.m[1].Pieces }, 5, 55, api.ErrMoves},
		{"returned", func(s *scene) *int { return &s.m[2].Pieces }, 1, 20, api.ErrMoves},
		{"pieces of the last move", func(s *scene) *int { return &s.m[3].Pieces }, 1, 100000, api.ErrMoves},
	} {
		set := func(to int) scene { return plain().with(func(s *scene) { *b.field(s) = to }) }
		for to := b.lo; to <= b.hi; to += max(1, (b.hi-b.lo)/5) {
			expectErrorIn(t, b.name, set(to), api.OK)
		}
		expectErrorIn(t, b.name, set(b.hi), api.OK)
		for _, to := range append(beyond(), b.lo-1, b.hi+1) {
			expectErrorIn(t, b.name, set(to), b.e)
		}
	}
}

// P8.1, P8.5 and R6: kinds of records, letters and moves are those that the chapter lists.
func TestKindsThatThereAre(t *testing.T) {
	for n := range 256 {
		kind, alone, hung, letter, moved := uint8(n), api.ErrRecords, api.ErrRecords, api.ErrLetters, api.ErrMoves
		if kind == api.RecFactory || kind == api.RecDrawing {
			alone = api.OK
		}
		if kind == api.RecBatch || kind == api.RecCertificate {
			hung = api.OK
		}
		if kind == 1 || kind == 2 {
			letter = api.OK
		}
		if kind >= 1 && kind <= 5 {
			moved = api.OK
		}
		expectErrorIn(t, n, plain().with(func(s *scene) { s.r[0].Kind = kind }), alone)
		expectErrorIn(t, n, plain().with(func(s *scene) { s.r[1].Kind = kind }), alone)
		expectErrorIn(t, n, plain().with(func(s *scene) { s.r[5].Kind = kind }), hung)
		expectErrorIn(t, n, plain().with(func(s *scene) { s.l[0].Kind = kind }), letter)
		expectErrorIn(t, n, plain().with(func(s *scene) { s.l[2].Kind = kind }), letter)
		// Of what is made before, and sold and returned, some may be moved in any way.
		room := plain().with(func(s *scene) { s.m = append(s.m, move(5, 30, api.MoveMade, 1)) })
		expectErrorIn(t, n, room.with(func(s *scene) { s.m[4].Kind = kind }), moved)
	}
}

// P8.1 and R6: whether records have Ways, how many, and with how many Ids.
func TestNumberOfWays(t *testing.T) {
	s := scene{r: []api.Record{factory(1), factory(2), factory(3), factory(4), factory(5), certificate(6, list(1))}}
	needs := list(1, 2, 3, 4, 5)
	for count := range 6 {
		for kind := range uint8(6) {
			want := api.ErrRecords
			if count == 0 && (kind == 1 || kind == 2) || 1 <= count && count <= 3 && (kind == 3 || kind == 4) {
				want = api.OK
			}
			expectError(t, []any{count, kind}, s.with(func(s *scene) {
				s.r[5].Kind, s.r[5].Ways = kind, slices.Repeat([][]int{{2, 4}}, count)
			}), want)
		}
		want := api.ErrRecords
		if 1 <= count && count <= 4 {
			want = api.OK
		}
		for way := range 3 {
			expectError(t, []int{count, way}, s.with(func(s *scene) {
				s.r[5].Ways = [][]int{{1}, {2}, {3}}
				s.r[5].Ways[way] = needs[:count]
			}), want)
		}
	}
	expectError(t, "many ways", s.with(func(s *scene) { s.r[5].Ways = slices.Repeat([][]int{{1}}, 5000) }), api.ErrRecords)
	expectError(t, "many needs", s.with(func(s *scene) { s.r[5].Ways[0] = slices.Repeat(list(1), 5000) }), api.ErrRecords)
}

// P8.1, R5 and R6: a way names records before it, in increasing order, no one twice.
func TestNeeds(t *testing.T) {
	for i, x := range []struct {
		way []int
		e   api.Errno
	}{
		{list(10), api.OK}, {list(20), api.OK}, {list(30), api.OK}, {list(10, 20), api.OK}, {list(10, 30), api.OK}, {list(10, 20, 30), api.OK},
		{list(), api.ErrRecords}, {nil, api.ErrRecords},
		{list(20, 10), api.ErrRecords}, {list(30, 10), api.ErrRecords}, {list(10, 30, 20), api.ErrRecords},
		{list(10, 10), api.ErrRecords}, {list(10, 20, 20), api.ErrRecords}, {list(30, 30), api.ErrRecords},
		{list(40), api.ErrRecords}, {list(50), api.ErrRecords}, {list(10, 40), api.ErrRecords}, {list(10, 50), api.ErrRecords}, {list(30, 40, 50), api.ErrRecords},
		{list(11), api.ErrRecords}, {list(0), api.ErrRecords}, {list(-1), api.ErrRecords}, {list(-1, 10), api.ErrRecords}, {list(10, 15), api.ErrRecords}, {list(10, 60), api.ErrRecords}, {list(10000), api.ErrRecords},
	} {
		for way := range 3 {
			s := scene{r: []api.Record{factory(10), drawing(20), certificate(30, list(10)), batch(40, list(10), list(20), list(30)), factory(50)}}
			s.r[3].Ways[way] = x.way
			expectError(t, i, s, x.e)
			expectError(t, i, s.with(func(s *scene) { s.r[3].Kind = api.RecCertificate }), x.e)
		}
	}
	for _, n := range beyond() {
		expectError(t, n, scene{r: []api.Record{factory(10), batch(40, list(n))}}, api.ErrRecords)
		expectError(t, n, scene{r: []api.Record{factory(10), batch(40, list(10, n))}}, api.ErrRecords)
	}
	// The first record can have no ways.
	expectError(t, "first", scene{r: []api.Record{batch(1, list(1))}}, api.ErrRecords)
	expectError(t, "first", scene{r: []api.Record{certificate(1, list(0))}}, api.ErrRecords)
	expectError(t, "without", scene{r: []api.Record{batch(1)}}, api.ErrRecords)
}

// P8.1 and P8.5: letters are about records of any kind, moves are of batches alone.
func TestAbout(t *testing.T) {
	for _, id := range append(beyond(), -1, 0, 9, 10, 11, 20, 21, 25, 30, 31, 35, 40, 41, 9999, 10000) {
		about, moved := api.ErrLetters, api.ErrMoves
		if slices.Contains(plain().ids(), id) {
			about = api.OK
		}
		if id == 30 || id == 35 {
			moved = api.OK
		}
		for i := range 3 {
			expectErrorIn(t, id, plain().with(func(s *scene) { s.l[i].About = id }), about)
		}
		s := plain().with(func(s *scene) { s.m = append(s.m, move(9, 30, api.MoveMade, 1)) })
		expectErrorIn(t, id, s.with(func(s *scene) { s.m[4].Batch = id }), moved)
	}
}

// P8.1 and P8.5: how many records, letters and moves there may be, in which order, and which errors come first.
func TestCheck(t *testing.T) {
	for i, x := range []struct {
		change func(s *scene)
		e      api.Errno
	}{
		{func(s *scene) {}, api.OK},
		{func(s *scene) { s.r = append([]api.Record{factory(0)}, s.r...) }, api.ErrRecords},
		{func(s *scene) { s.r[0] = factory(0) }, api.ErrRecords},
		{func(s *scene) { s.r = s.r[:11] }, api.ErrLetters},
		{func(s *scene) { s.r, s.l = s.r[:11], nil }, api.ErrMoves},
		{func(s *scene) { s.r, s.l, s.m = s.r[:11], nil, nil }, api.OK},
		{func(s *scene) { s.r[5], s.r[6] = s.r[6], s.r[5] }, api.ErrRecords},
		{func(s *scene) { s.r[1], s.r[2] = s.r[2], s.r[1] }, api.ErrRecords},
		{func(s *scene) { s.r[2] = s.r[1] }, api.ErrRecords},
		{func(s *scene) { s.r = slices.Repeat(s.r, 500) }, api.ErrRecords},
		{func(s *scene) { s.l = append([]api.Letter{restore(0, 0, api.MaxId)}, s.l...) }, api.ErrLetters},
		{func(s *scene) { s.l = s.l[:19] }, api.OK},
		{func(s *scene) { s.l[5].Id = s.l[6].Id }, api.ErrLetters},
		{func(s *scene) { slices.Reverse(s.l) }, api.ErrLetters},
		{func(s *scene) { s.l = slices.Repeat(s.l, 500) }, api.ErrLetters},
		{func(s *scene) { s.m = append([]api.Move{move(0, api.MaxId, api.MoveMade, 1)}, s.m...) }, api.ErrMoves},
		{func(s *scene) { s.m = s.m[:39] }, api.OK},
		{func(s *scene) { s.m[5].Id = s.m[6].Id }, api.ErrMoves},
		{func(s *scene) { slices.Reverse(s.m) }, api.ErrMoves},
		{func(s *scene) { s.m = slices.Repeat(s.m, 500) }, api.ErrMoves},
		{func(s *scene) { s.m = nil }, api.OK},
		{func(s *scene) { s.r[11].Kind, s.l[19].Kind, s.m[39].Kind = 0, 0, 0 }, api.ErrRecords},
		{func(s *scene) { s.m[39].Kind = 0 }, api.ErrMoves},
		{func(s *scene) { s.l[19].Kind = 0 }, api.ErrLetters},
	} {
		expectErrorIn(t, i, greatest().with(x.change), x.e)
	}
	s := greatest().with(func(s *scene) { s.l[19].Kind, s.m[39].Kind = 0, 0 })
	expectError(t, "both", s, api.ErrLetters)
	expectErrorOfDay(t, "both", s.with(func(s *scene) { s.r[0].Kind = 0 }), -1, api.ErrRecords)
	// Pieces has no letters, so that just the records and the moves count.
	expectErrorOfPieces(t, "both", s, -1, api.ErrMoves)
}

// P8.1, P8.2, P8.6 and R5: days, and then Ids.
func TestDaysAndIds(t *testing.T) {
	s := example()
	for _, day := range append(beyond(), -1, api.MaxDay+1) {
		for _, id := range list(1, 7, 0, 8, -1) {
			expectErrorOfDay(t, "day", s, day, api.ErrArg)
			expectErrorWithId(t, "day", s, day, id, api.ErrArg)
		}
	}
	for _, day := range list(0, 10, 20, api.MaxDay) {
		expectErrorOfDay(t, "day", s, day, api.OK)
		for _, id := range s.ids() {
			expectErrorWithId(t, "id", s, day, id, api.OK)
		}
		for _, id := range append(beyond(), -1, 0, 8, api.MaxId, api.MaxId+1) {
			expectErrorWithId(t, "id", s, day, id, api.ErrNone)
			expectErrorOfPieces(t, "id", s, id, api.ErrNone)
		}
	}
}
