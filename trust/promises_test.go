package trust_test

import (
	"math/rand"
	"slices"
	"testing"

	"cottonpad/api"
)

// P8.1: what holds by the words of the chapter, on days of letters, before them, and on others.
func TestHoldsByTheWord(t *testing.T) {
	g := rand.New(rand.NewSource(1))
	held, withdrawn, fallen := 0, 0, 0
	for range 3000 {
		s := someOf(g, sizes()).some(g)
		day := s.someDay(g)
		gone := s.withdrawnOn(day)
		want := s.standing(gone)
		if ids := s.holds(t, day); !slices.Equal(ids, want) {
			t.Fatal(day, ids, want, s)
		}
		held += len(want)
		withdrawn += len(gone)
		fallen += len(s.r) - len(want) - len(gone)
	}
	if held < 3000 || withdrawn < 1000 || fallen < 1000 {
		t.Error("too few of one kind", held, withdrawn, fallen)
	}
}

// P8.2: by the words of the chapter, what does not hold if a record is withdrawn, too.
func TestTakesByTheWord(t *testing.T) {
	g := rand.New(rand.NewSource(2))
	none, alone, several := 0, 0, 0
	for range 2000 {
		s := someOf(g, sizes()).some(g)
		day := s.someDay(g)
		gone := s.withdrawnOn(day)
		for _, id := range s.ids() {
			want := minus(s.standing(gone), s.standing(append(list(id), gone...)))
			ids := s.takes(t, day, id)
			if !slices.Equal(ids, want) {
				t.Fatal(day, id, ids, want, s)
			}
			switch len(ids) {
			case 0:
				none++
			case 1:
				alone++
			default:
				several++
			}
			if slices.Contains(s.standing(gone), id) != slices.Contains(ids, id) || !s.stands(id, gone) && len(ids) > 0 {
				t.Fatal(day, id, ids, s)
			}
		}
	}
	if none < 1000 || alone < 1000 || several < 1000 {
		t.Error("too few of one kind", none, alone, several)
	}
}

// P8.3: the first one of the shortest lists, of all lists of records that hold.
func TestRestsByTheWord(t *testing.T) {
	g := rand.New(rand.NewSource(3))
	bad, first, lengths := 0, 0, map[int]int{}
	for range 5000 {
		s := someOf(g, append(sizes(), steady(), steady())).some(g)
		day, id := s.someDay(g), s.r[len(s.r)-1-g.Intn(min(2, len(s.r)))].Id
		held := s.standing(s.withdrawnOn(day))
		ids, holds := s.rests(t, day, id)
		if holds != slices.Contains(held, id) {
			t.Fatal(day, id, holds, s)
		}
		if !holds {
			bad++
			continue
		}
		isSo := func(ids []int) bool { return slices.Contains(ids, id) && s.isWhole(ids) }
		if want := firstOf(held, isSo); !slices.Equal(ids, want) {
			t.Fatal(day, id, ids, want, s)
		}
		if howMany(held, len(ids), isSo) > 1 {
			first++
		}
		lengths[len(ids)]++
	}
	if bad < 100 || first < 100 || lengths[1] < 50 || lengths[2] < 50 || lengths[3] < 50 || lengths[4] < 20 {
		t.Error("too few of one kind", bad, first, lengths)
	}
}

// P8.4: the first one of the shortest lists, of all lists of records that are withdrawn.
func TestCausesByTheWord(t *testing.T) {
	g := rand.New(rand.NewSource(4))
	bad, first, lengths := 0, 0, map[int]int{}
	for range 8000 {
		s := someOf(g, append(sizes(), broken(), broken())).some(g)
		day, id := s.someDay(g), s.r[len(s.r)-1-g.Intn(min(2, len(s.r)))].Id
		gone := s.withdrawnOn(day)
		ids, any := s.causes(t, day, id)
		if any == s.stands(id, gone) {
			t.Fatal(day, id, any, s)
		}
		if !any {
			bad++
			continue
		}
		isSo := func(ids []int) bool { return s.stands(id, minus(gone, ids)) }
		if want := firstOf(gone, isSo); !slices.Equal(ids, want) {
			t.Fatal(day, id, ids, want, s)
		}
		if howMany(gone, len(ids), isSo) > 1 {
			first++
		}
		lengths[len(ids)]++
	}
	if bad < 100 || first < 50 || lengths[0] > 0 || lengths[1] < 100 || lengths[2] < 50 || lengths[3] < 20 {
		t.Error("too few of one kind", bad, first, lengths)
	}
}

// P8.5 and P8.10: by the words of the chapter; what came is what went away, and is left.
func TestPiecesByTheWord(t *testing.T) {
	g := rand.New(rand.NewSource(5))
	none, one, several, empty, moved := 0, 0, 0, 0, api.Store{}
	for range 1500 {
		s := someOf(g, sizes()).some(g)
		for _, id := range s.ids() {
			of := only(s.batches(), func(b int) bool { return s.comes(b, id) })
			x := s.pieces(t, id)
			if want := s.store(of); x != want {
				t.Fatal(id, x, want, of, s)
			}
			if x.Made+x.Returned != x.Tested+x.Sold+x.Scrapped+x.Left || x.Left < 0 || x.Returned > x.Sold {
				t.Fatal(id, x, s)
			}
			switch {
			case len(of) == 0:
				none++
			case x == api.Store{}:
				empty++
			case len(of) == 1:
				one++
			default:
				several++
			}
			moved = api.Store{Made: moved.Made + x.Made, Returned: moved.Returned + x.Returned, Tested: moved.Tested + x.Tested, Sold: moved.Sold + x.Sold, Scrapped: moved.Scrapped + x.Scrapped}
		}
	}
	if none < 500 || one < 500 || several < 500 || empty < 100 || min(moved.Made, moved.Returned, moved.Tested, moved.Sold, moved.Scrapped) < 10000 {
		t.Error("too few of one kind", none, one, several, empty, moved)
	}
}

// P8.10: what comes of a record is the sum of all batches that come of it, each one counted once, by what Pieces tells of moves of one batch alone.
func TestSumOfBatches(t *testing.T) {
	g := rand.New(rand.NewSource(6))
	several := 0
	for range 800 {
		s := someOf(g, sizes()).some(g)
		id := s.someId(g)
		var sum api.Store
		of := only(s.batches(), func(b int) bool { return s.comes(b, id) })
		for _, b := range of {
			// A batch by itself: no other moves.
			x := s.with(func(s *scene) {
				s.m = slices.DeleteFunc(s.m, func(m api.Move) bool { return m.Batch != b })
			}).pieces(t, b)
			sum = api.Store{Made: sum.Made + x.Made, Returned: sum.Returned + x.Returned, Tested: sum.Tested + x.Tested, Sold: sum.Sold + x.Sold, Scrapped: sum.Scrapped + x.Scrapped, Left: sum.Left + x.Left}
		}
		if x := s.pieces(t, id); x != sum {
			t.Fatal(id, x, sum, s)
		}
		if len(of) > 1 && sum != (api.Store{}) {
			several++
		}
	}
	if several < 50 {
		t.Error("too few", several)
	}
}

// P8.5, P8.6 and P8.10: the order of moves does not matter.
func TestAnyOrderOfMoves(t *testing.T) {
	g := rand.New(rand.NewSource(7))
	moves := 0
	for range 800 {
		s := someOf(g, sizes()).some(g)
		day, ids := s.someDay(g), someIds(g, len(s.m), 0, api.MaxId)
		other := s.with(func(s *scene) {
			g.Shuffle(len(s.m), func(i, j int) { s.m[i], s.m[j] = s.m[j], s.m[i] })
			for i := range s.m {
				s.m[i].Id = ids[i]
			}
		})
		for _, id := range s.ids() {
			if x, y := s.pieces(t, id), other.pieces(t, id); x != y {
				t.Fatal(id, x, y, s, other)
			}
		}
		batches, n := s.recall(t, day)
		if others, m := other.recall(t, day); n != m || !slices.Equal(batches, others) {
			t.Fatal(day, batches, n, others, m, s, other)
		}
		moves += len(s.m)
	}
	if moves < 3000 {
		t.Error("too few", moves)
	}
}

// P8.6: by the words of the chapter.
func TestRecallByTheWord(t *testing.T) {
	g := rand.New(rand.NewSource(8))
	none, one, several, unsold, returned, held := 0, 0, 0, 0, 0, 0
	for range 6000 {
		s := someOf(g, sizes()).some(g)
		day := s.someDay(g)
		gone := s.withdrawnOn(day)
		var want []int
		sum := 0
		for _, b := range s.batches() {
			out := s.moved(b, api.MoveSold) - s.moved(b, api.MoveReturned)
			switch {
			case s.stands(b, gone):
				held++
			case s.moved(b, api.MoveSold) == 0:
				unsold++
			case out == 0:
				returned++
			default:
				want = append(want, b)
				sum += out
			}
		}
		if ids, n := s.recall(t, day); n != sum || !slices.Equal(ids, want) {
			t.Fatal(day, ids, n, want, sum, s)
		}
		switch len(want) {
		case 0:
			none++
		case 1:
			one++
		default:
			several++
		}
	}
	if none < 500 || one < 200 || several < 50 || unsold < 200 || returned < 50 || held < 200 {
		t.Error("too few of one kind", none, one, several, unsold, returned, held)
	}
}

// room returns a scene of which there may be some letters more, and a day.
func room(g *rand.Rand, letters int) (scene, int) {
	s := someOf(g, sizes()).some(g)
	s.l = s.l[:min(len(s.l), api.MaxLetters-letters)]
	return s, s.someDay(g)
}

// P8.7, P8.8, N8: with one letter more all that a record takes do not hold, all others do as before, and no more hold; restored, all is as before.
func TestOneLetterMore(t *testing.T) {
	g := rand.New(rand.NewSource(9))
	took, nothing := 0, 0
	for range 1500 {
		s, day := room(g, 2)
		id := s.someId(g)
		before, takes := s.holds(t, day), s.takes(t, day, id)
		after := s.more(day, api.LetterWithdraw, id)
		if ids, want := after.holds(t, day), minus(before, takes); !slices.Equal(ids, want) {
			t.Fatal(day, id, ids, want, s)
		}
		if day > 0 && !slices.Equal(s.holds(t, day-1), after.holds(t, day-1)) {
			t.Fatal(day, id, s)
		}
		back := after.more(day, api.LetterRestore, id).holds(t, day)
		if s.withdrawn(day, id) {
			before = s.more(day, api.LetterRestore, id).holds(t, day)
		}
		if !slices.Equal(back, before) {
			t.Fatal(day, id, back, before, s)
		}
		if len(takes) > 1 {
			took++
		} else {
			nothing++
		}
	}
	if took < 200 || nothing < 200 {
		t.Error("too few of one kind", took, nothing)
	}
}

// P8.7: letters of other days may have any numbers; those of one day keep their order.
func TestAnyOrderOfLetters(t *testing.T) {
	g := rand.New(rand.NewSource(10))
	moved := 0
	for range 1000 {
		s := someOf(g, sizes()).some(g)
		var byDay [][]api.Letter
		for _, l := range s.l {
			i := slices.IndexFunc(byDay, func(list []api.Letter) bool { return list[0].Day == l.Day })
			if i < 0 {
				byDay, i = append(byDay, nil), len(byDay)
			}
			byDay[i] = append(byDay[i], l)
		}
		var letters []api.Letter
		for len(byDay) > 0 {
			i := g.Intn(len(byDay))
			letters = append(letters, byDay[i][0])
			if byDay[i] = byDay[i][1:]; len(byDay[i]) == 0 {
				byDay = slices.Delete(byDay, i, i+1)
			}
		}
		other := s.lettered(letters...)
		if !slices.EqualFunc(s.l, other.l, func(a, b api.Letter) bool { return a.Day == b.Day && a.About == b.About && a.Kind == b.Kind }) {
			moved++
		}
		for range 3 {
			day, id := s.someDay(g), s.someId(g)
			if a, b := s.holds(t, day), other.holds(t, day); !slices.Equal(a, b) {
				t.Fatal(day, a, b, s, other)
			}
			if a, b := s.takes(t, day, id), other.takes(t, day, id); !slices.Equal(a, b) {
				t.Fatal(day, id, a, b, s, other)
			}
			a, holds := s.rests(t, day, id)
			if b, same := other.rests(t, day, id); holds != same || !slices.Equal(a, b) {
				t.Fatal(day, id, a, b, s, other)
			}
			a, _ = s.causes(t, day, id)
			if b, _ := other.causes(t, day, id); !slices.Equal(a, b) {
				t.Fatal(day, id, a, b, s, other)
			}
		}
	}
	if moved < 300 {
		t.Error("too few", moved)
	}
}

// P8.8: letters that withdraw more let no more hold.
func TestMoreWithdrawn(t *testing.T) {
	g := rand.New(rand.NewSource(11))
	fewer := 0
	for range 1000 {
		s, day := room(g, 3)
		var about []int
		for range between(g, 1, 3) {
			about = append(about, s.someId(g))
		}
		before := s.holds(t, day)
		after := s.more(day, api.LetterWithdraw, about...).holds(t, day)
		if len(minus(after, before)) > 0 {
			t.Fatal(day, about, before, after, s)
		}
		if len(after) < len(before) {
			fewer++
		}
	}
	if fewer < 200 {
		t.Error("too few", fewer)
	}
}

// P8.8: who is withdrawn and restored is as before, on the same day or a later one, with other letters between.
func TestWithdrawnAndRestored(t *testing.T) {
	g := rand.New(rand.NewSource(12))
	fell := 0
	for range 1000 {
		s, day := room(g, 2)
		held := s.holds(t, day)
		if len(held) == 0 || day == api.MaxDay {
			continue
		}
		id := someOf(g, held)
		s.l = slices.DeleteFunc(s.l, func(l api.Letter) bool { return l.Day > day })
		later := min(api.MaxDay, day+g.Intn(3))
		x := s.more(day, api.LetterWithdraw, id)
		y := x.more(later, api.LetterRestore, id)
		if ids := y.holds(t, later); !slices.Equal(ids, held) {
			t.Fatal(day, later, id, ids, held, s)
		}
		if slices.Contains(x.holds(t, later), id) {
			t.Fatal(day, later, id, s)
		}
		fell++
	}
	if fell < 300 {
		t.Error("too few", fell)
	}
}

// P8.8: what a record rests on is enough, and any fewer records are not.
func TestRestsAreEnough(t *testing.T) {
	g := rand.New(rand.NewSource(13))
	rested, fewer := 0, 0
	for range 400 {
		s := someOf(g, sizes()).some(g)
		day := s.someDay(g)
		held := s.holds(t, day)
		if len(held) == 0 {
			continue
		}
		id := held[len(held)-1]
		ids, _ := s.rests(t, day, id)
		with := func(ids []int) bool { return slices.Contains(s.just(minus(s.ids(), ids)).holds(t, 0), id) }
		if !with(ids) || len(minus(ids, held)) > 0 {
			t.Fatal(day, id, ids, s)
		}
		rested++
		// Without any one of them it does not hold, nor with fewer others.
		for _, gone := range ids {
			if with(minus(ids, list(gone))) {
				t.Fatal(day, id, ids, gone, s)
			}
		}
		lists(held, len(ids)-1, nil, func(ids []int) {
			fewer++
			if with(ids) {
				t.Fatal(day, id, ids, s)
			}
		})
	}
	if rested < 200 || fewer < 2000 {
		t.Error("too few of one kind", rested, fewer)
	}
}

// P8.9: with letters that restore what is named as a cause the record holds, and with fewer it does not.
func TestCausesAreCauses(t *testing.T) {
	g := rand.New(rand.NewSource(14))
	causes, several, fewer := 0, 0, 0
	for range 1200 {
		s, day := room(g, api.MaxRecords)
		id := s.r[len(s.r)-1-g.Intn(min(3, len(s.r)))].Id
		ids, any := s.causes(t, day, id)
		if !any {
			continue
		}
		causes++
		if len(ids) > 1 {
			several++
		}
		gone := s.withdrawnOn(day)
		if len(minus(ids, gone)) > 0 {
			t.Fatal(day, id, ids, gone, s)
		}
		restored := func(ids []int) bool {
			return slices.Contains(s.more(day, api.LetterRestore, ids...).holds(t, day), id)
		}
		if !restored(ids) {
			t.Fatal(day, id, ids, s)
		}
		lists(gone, len(ids)-1, nil, func(ids []int) {
			fewer++
			if restored(ids) {
				t.Fatal(day, id, ids, s)
			}
		})
	}
	if causes < 300 || several < 50 || fewer < 500 {
		t.Error("too few of one kind", causes, several, fewer)
	}
}

// N8: what is withdrawn takes with it just what hung on it: each record that it takes comes through it in each way that held, all others do not.
func TestTakesJustWhatHung(t *testing.T) {
	g := rand.New(rand.NewSource(15))
	took, kept := 0, 0
	for range 1500 {
		s := someOf(g, sizes()).some(g)
		day := s.someDay(g)
		held := s.holds(t, day)
		if len(held) == 0 {
			continue
		}
		id := someOf(g, held)
		takes := s.takes(t, day, id)
		for _, other := range held {
			if other == id {
				continue
			}
			rests, holds := s.just(append(minus(s.ids(), held), id)).rests(t, 0, other)
			if holds == slices.Contains(takes, other) || slices.Contains(rests, id) {
				t.Fatal(day, id, takes, other, rests, s)
			}
			if holds {
				kept++
			} else {
				took++
			}
		}
	}
	if took < 500 || kept < 500 {
		t.Error("too few of one kind", took, kept)
	}
}
