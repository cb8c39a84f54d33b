package desk_test

import (
	"fmt"
	"slices"
	"strings"
	"testing"

	"cottonpad/api"
	"cottonpad/class"
	"cottonpad/desk"
	"cottonpad/extend"
	"cottonpad/trust"
)

// The chapter's examples, but for that of Write.
func TestExamples(t *testing.T) {
	o := example()
	if e := desk.Check(o); e != api.OK {
		t.Fatal(e)
	}
	const asked = "grant 7 2 15 2050 0 0 0 0 0 1 2"
	expectError(t, o, "print 0 1", api.ErrBad)
	printed := done(t, o, "shut 0; print 0 1; print 0 2")
	if want := []api.Print{{Letter: 1, Minutes: 20, Day: 40}, {Letter: 2, Minutes: 15, Day: 40}}; !same(printed.Prints, want) {
		t.Error(printed.Prints)
	}
	expectRefused(t, o, "note 0 1500 5 100 0 0", "twist")
	expectRefused(t, o, asked, "lacks 0")
	shut := done(t, o, "shut 0")
	expectDone(t, shut, asked, func(o *api.Office) {
		o.Records = append(o.Records, certificate(7, list(1, 2)))
		o.Grants = []api.Grant{{Id: 7, Wish: wish(2, 15, 2050, 0, 0, 0, 0, 0)}}
	})
	expectDone(t, shut, "grant 7 2 15 2100 0 0 0 0 0 1 2", func(o *api.Office) {
		o.Records = append(o.Records, certificate(7, list(1, 2)))
		o.Grants = []api.Grant{{Id: 7, Wish: wish(2, 15, 2100, 0, 0, 0, 0, 0)}}
	})
	expectRefused(t, shut, "grant 7 2 15 2101 0 0 0 0 0 1 2", "lacks 0")
	expectRefused(t, done(t, o, "shut 0; withdraw 1"), asked, "broken 1")
	granted := done(t, shut, asked)
	expectTold(t, granted, 7, true, 15, list(1, 2, 7))
	expectTold(t, done(t, granted, "withdraw 1"), 7, false, 15, list(1))
}

// expectTold checks what is told of a certificate.
func expectTold(t *testing.T, o api.Office, id int, holds bool, minutes int, why []int) {
	t.Helper()
	h, n, ids, e := desk.Tell(o, id)
	if h != holds || n != minutes || !slices.Equal(ids, why) || e != api.OK {
		t.Error("Tell", id, h, n, ids, e, "not", holds, minutes, why)
	}
}

// tasks are the words of the chapter's table, with how many numbers they need.
func tasks() map[string]api.Span {
	return map[string]api.Span{
		"day": span(1, 1), "row": span(3, 10), "note": span(6, 6), "shut": span(1, 1), "print": span(2, 2), "factory": span(1, 1), "drawing": span(1, 1),
		"batch": span(2, 5), "grant": span(10, 13), "withdraw": span(1, 1), "restore": span(1, 1),
	}
}

// P11.1: what is a deed: its word, and how many numbers it needs.
func TestWordsAndCounts(t *testing.T) {
	o := busy()
	for word, counts := range tasks() {
		for count := range 20 {
			_, _, e := desk.Do(o, api.Deed{Word: word, Nums: slices.Repeat(list(-1), count)})
			if (e == api.ErrDeed) != (count < counts.Lo || count > counts.Hi) || e == api.OK || e == api.ErrArg {
				t.Error(word, count, e)
			}
		}
		for _, other := range []string{"", " ", word + " ", " " + word, strings.ToUpper(word), strings.ToUpper(word[:1]) + word[1:], word + "s", word[1:], word[:len(word)-1], word + "\n", word + "\x00", word + "|1", "é" + word, "deed"} {
			for count := range 20 {
				if _, _, e := desk.Do(o, api.Deed{Word: other, Nums: make([]int, count)}); e != api.ErrDeed {
					t.Errorf("%q %d %v", other, count, e)
				}
			}
		}
	}
}

// P11.1 and R5: numbers that are not told, whichever of a deed it is; and that this error comes behind that of the word, and before all others.
func TestToldNumbers(t *testing.T) {
	full := with(busy(), func(o *api.Office) { o.Log = slices.Repeat(deeds("day 50"), api.MaxDeeds) })
	for word, counts := range tasks() {
		for count := counts.Lo; count <= counts.Hi; count++ {
			for at := range count {
				d := api.Deed{Word: word, Nums: slices.Repeat(list(-7), count)}
				for _, n := range append(beyond(), -1000000001, 1000000001) {
					d.Nums[at] = n
					expect(t, busy(), d, "", api.ErrArg, nil)
					expect(t, full, d, "", api.ErrArg, nil)
					expect(t, full, api.Deed{Word: "deed", Nums: d.Nums}, "", api.ErrDeed, nil)
				}
				for _, n := range list(-1000000000, 1000000000) {
					d.Nums[at] = n
					if _, _, e := desk.Do(busy(), d); e == api.ErrArg || e == api.ErrDeed || e == api.OK {
						t.Error(d, e)
					}
					expect(t, full, d, "", api.ErrFull, nil)
				}
			}
		}
	}
}

// P11.1: the errors of Do, in their order: an office, a deed, its numbers, a full Log, and those of the table.
func TestOrderOfErrors(t *testing.T) {
	wrong := with(busy(), func(o *api.Office) { o.Day = -1 })
	full := with(busy(), func(o *api.Office) { o.Log = slices.Repeat(deeds("day 50"), api.MaxDeeds) })
	last := with(full, func(o *api.Office) { o.Log = o.Log[1:] })
	for _, x := range []struct {
		said                     string
		wrong, full, last, usual api.Errno
	}{
		{"deed 1", api.ErrOffice, api.ErrDeed, api.ErrDeed, api.ErrDeed},
		{"day 1000000001 2", api.ErrOffice, api.ErrDeed, api.ErrDeed, api.ErrDeed},
		{"day 1000000001", api.ErrOffice, api.ErrArg, api.ErrArg, api.ErrArg},
		{"shut 9", api.ErrOffice, api.ErrFull, api.ErrNone, api.ErrNone},
		{"day 49", api.ErrOffice, api.ErrFull, api.ErrBad, api.ErrBad},
		{"day 51", api.ErrOffice, api.ErrFull, api.OK, api.OK},
	} {
		for i, y := range []struct {
			o    api.Office
			want api.Errno
		}{{wrong, x.wrong}, {full, x.full}, {last, x.last}, {busy(), x.usual}} {
			if next, said, e := desk.Do(y.o, deed(x.said)); e != y.want || said != "" || e != api.OK && !same(next, api.Office{}) {
				t.Error(x.said, i, next, said, e)
			}
		}
	}
	next, _, e := desk.Do(last, deed("day 51"))
	if len(next.Log) != api.MaxDeeds || e != api.OK {
		t.Error(len(next.Log), e)
	}
	expectError(t, next, "day 52", api.ErrFull)
}

func TestDay(t *testing.T) {
	o := busy()
	for _, day := range list(50, 51, 60, 99999, 100000) {
		expectDone(t, o, fmt.Sprint("day ", day), func(o *api.Office) { o.Day = day })
	}
	for _, day := range list(-1000000000, -1, 0, 1, 49, 100001, 1000000000) {
		expectError(t, o, fmt.Sprint("day ", day), api.ErrBad)
	}
	// Letters and prints of the day before stay as they are.
	next := done(t, o, "withdraw 20; print 0 1; day 51; withdraw 10; print 2 1")
	if l := next.Letters[3:]; !same(l, []api.Letter{withdraw(9, 50, 20), withdraw(10, 51, 10)}) {
		t.Error(l)
	}
	if p := next.Prints[3:]; !same(p, []api.Print{{Specimen: 0, Letter: 1, Minutes: 15, Day: 50}, {Specimen: 2, Letter: 1, Minutes: 30, Day: 51}}) {
		t.Error(p)
	}
}

func TestRow(t *testing.T) {
	o := busy()
	addTo := func(s, press int, degrees ...int) func(o *api.Office) {
		return func(o *api.Office) {
			x := &o.Specimens[s].Test
			x.Run.Rows = append(x.Run.Rows, api.Row{Press: press, Degrees: degrees})
			x.End = 60 * len(x.Run.Rows)
		}
	}
	expectDone(t, o, "row 1 -5 100", addTo(1, -5, 100))
	expectDone(t, o, "row 3 100 2000", addTo(3, 100, 2000))
	expectDone(t, o, "row 3 -100 0", addTo(3, -100, 0))
	// The end of a test that was seen before its last minute was over, too.
	early := with(o, func(o *api.Office) { o.Specimens[1].Test.End = 7 })
	expectDone(t, early, "row 1 0 90", addTo(1, 0, 90))
	two := with(o, func(o *api.Office) {
		x := &o.Specimens[1].Test.Run
		x.Couples = append(x.Couples, api.Couple{Id: 2})
		for i := range x.Rows {
			x.Rows[i].Degrees = list(100, 90)
		}
	})
	expectDone(t, two, "row 1 3 100 200", addTo(1, 3, 100, 200))
	for _, said := range []string{"row 1 3 100", "row 1 3 100 100 100", "row 1 3 1 2 3 4 5 6 7 8", "row 1 3 100 -1", "row 1 3 -1 100", "row 1 3 2001 1", "row 1 3 1 2001", "row 1 101 1 1", "row 1 -101 1 1"} {
		expectError(t, two, said, api.ErrBad)
	}
	for s := range 8 {
		for couples := 1; couples <= 8; couples++ {
			said := fmt.Sprint("row ", s, " 0", strings.Repeat(" 100", couples))
			switch {
			case s >= 4:
				expectError(t, o, said, api.ErrNone)
			case s == 0 || s == 2 || couples > 1:
				expectError(t, o, said, api.ErrBad)
			default:
				expectDone(t, o, said, addTo(s, 0, 100))
			}
		}
	}
	for _, s := range list(-1, -1000000000, 4, 1000000000) {
		expectError(t, o, fmt.Sprint("row ", s, " 0 100"), api.ErrNone)
		expectError(t, o, fmt.Sprint("row ", s, " 999 -5 5 5"), api.ErrNone)
	}
	// As many rows as there may be, and as the curve has minutes.
	long := with(o, func(o *api.Office) { o.Specimens[1].Test = begun(59) })
	expectDone(t, long, "row 1 0 100", addTo(1, 0, 100))
	expectError(t, done(t, long, "row 1 0 100"), "row 1 0 100", api.ErrBad)
	short := with(o, func(o *api.Office) { o.Specimens[1].Test.Run.Curve[1].Minute = 4 })
	expectDone(t, short, "row 1 0 100", addTo(1, 0, 100))
	expectError(t, done(t, short, "row 1 0 100"), "row 1 0 100", api.ErrBad)
	eight := with(o, func(o *api.Office) {
		x := &o.Specimens[3].Test.Run
		for i := range 7 {
			x.Couples = append(x.Couples, api.Couple{Id: 2 + i})
		}
		for i := range x.Rows {
			x.Rows[i].Degrees = slices.Repeat(list(100), 8)
		}
	})
	expectDone(t, eight, "row 3 1 2 3 4 5 6 7 8 9", addTo(3, 1, 2, 3, 4, 5, 6, 7, 8, 9))
}

func TestNote(t *testing.T) {
	o := busy()
	note := func(s int, n api.Note) func(o *api.Office) {
		return func(o *api.Office) { o.Specimens[s].Test.Notes = append(o.Specimens[s].Test.Notes, n) }
	}
	expectDone(t, o, "note 1 100 5 200 -3 4", note(1, api.Note{At: 100, Kind: api.CritPoint, Value: 200, Off: span(-3, 4)}))
	expectDone(t, o, "note 1 0 1 0 -200 200", note(1, api.Note{Kind: api.CritBend, Off: span(-200, 200)}))
	expectDone(t, o, "note 1 180 6 10000 7 7", note(1, api.Note{At: 180, Kind: api.CritMean, Value: 10000, Off: span(7, 7)}))
	// It is the last one, also of those of its second.
	expectDone(t, o, "note 3 600 1 3 0 0", note(3, api.Note{At: 600, Kind: api.CritBend, Value: 3}))
	noted := done(t, o, "note 1 100 5 200 -3 4")
	expectDone(t, noted, "note 1 100 1 3 0 0", note(1, api.Note{At: 100, Kind: api.CritBend, Value: 3}))
	expectError(t, noted, "note 1 99 1 3 0 0", api.ErrBad)
	for _, said := range []string{
		"-1 1 0 0 0", "181 1 0 0 0", "0 0 0 0 0", "0 7 0 0 0", "0 -1 0 0 0", "0 1 -1 0 0", "0 1 10001 0 0", "0 1 0 -201 0", "0 1 0 0 201", "0 1 0 1 0", "0 1 0 201 201", "0 1 0 -201 -201",
		// Kinds that would be right ones if just their last byte was seen.
		"0 257 0 0 0", "0 -255 0 0 0", "0 255 0 0 0", "0 256 0 0 0", "0 65537 0 0 0", "0 1000000000 0 0 0", "0 -1000000000 0 0 0",
	} {
		expectError(t, o, "note 1 "+said, api.ErrBad)
		expectError(t, o, "note 0 "+said, api.ErrBad)
		expectError(t, o, "note 4 "+said, api.ErrNone)
		expectError(t, o, "note -1 "+said, api.ErrNone)
	}
	full := with(o, func(o *api.Office) {
		o.Specimens[1].Test.Notes = slices.Repeat([]api.Note{{At: 5, Kind: 1}}, api.MaxNotes-1)
	})
	expectDone(t, full, "note 1 5 1 0 0 0", note(1, api.Note{At: 5, Kind: 1}))
	expectError(t, done(t, full, "note 1 5 1 0 0 0"), "note 1 5 1 0 0 0", api.ErrBad)
}

// P11.1 and P11.11: a twist, which comes behind all else that may be wrong.
func TestTwist(t *testing.T) {
	o := with(busy(), func(o *api.Office) {
		// The limit of the point is 180: it held at 60, and nothing is shown at 100; the gap has failed at 90.
		o.Specimens[1].Test.Notes = []api.Note{{At: 60, Kind: 5, Value: 170}, {At: 90, Kind: 3, Value: 7}, {At: 100, Kind: 5, Value: 182, Off: span(0, 5)}}
	})
	expectRefused(t, o, "note 1 100 3 0 0 0", "twist")
	expectRefused(t, o, "note 1 180 3 6 0 0", "twist")
	expectRefused(t, o, "note 1 180 3 10 4 9", "twist")
	expectDone(t, o, "note 1 100 3 7 0 1", func(o *api.Office) {
		o.Specimens[1].Test.Notes = append(o.Specimens[1].Test.Notes, api.Note{At: 100, Kind: 3, Value: 7, Off: span(0, 1)})
	})
	expectDone(t, o, "note 1 100 5 0 0 0", func(o *api.Office) {
		o.Specimens[1].Test.Notes = append(o.Specimens[1].Test.Notes, api.Note{At: 100, Kind: 5})
	})
	// Of the same second, whatever is noted first.
	expectRefused(t, done(t, o, "note 1 100 5 0 0 0"), "note 1 100 5 181 0 0", "twist")
	expectRefused(t, done(t, o, "note 1 100 5 181 0 0"), "note 1 100 5 180 0 0", "twist")
	expectError(t, o, "note 1 181 3 0 0 0", api.ErrBad)
	expectError(t, o, "note 1 99 3 0 0 0", api.ErrBad)
	expectError(t, o, "note 1 100 3 0 0 201", api.ErrBad)
	// A shut one has no note more, even if this would be a twist.
	expectError(t, done(t, o, "shut 1"), "note 1 100 3 0 0 0", api.ErrBad)
}

func TestShut(t *testing.T) {
	o := busy()
	expectDone(t, o, "shut 1", func(o *api.Office) { o.Shut = list(0, 1, 2) })
	expectDone(t, o, "shut 3", func(o *api.Office) { o.Shut = list(0, 2, 3) })
	expectDone(t, with(o, func(o *api.Office) { o.Shut = list(0, 2, 3) }), "shut 1", func(o *api.Office) { o.Shut = list(0, 1, 2, 3) })
	all := with(example(), func(o *api.Office) { o.Specimens = slices.Repeat(o.Specimens, api.MaxSpecimens) })
	expectDone(t, all, "shut 0", func(o *api.Office) { o.Shut = list(0) })
	expectDone(t, done(t, all, "shut 7; shut 3; shut 5"), "shut 0", func(o *api.Office) { o.Shut = list(0, 3, 5, 7) })
	for _, s := range list(0, 2) {
		expectError(t, o, fmt.Sprint("shut ", s), api.ErrBad)
	}
	for _, s := range list(-1, 4, 8, 1000000000, -1000000000) {
		expectError(t, o, fmt.Sprint("shut ", s), api.ErrNone)
	}
	expectError(t, with(example(), func(o *api.Office) { o.Specimens = nil }), "shut 0", api.ErrNone)
}

func TestPrint(t *testing.T) {
	o := busy()
	for letter := uint8(1); letter <= 3; letter++ {
		expectDone(t, o, fmt.Sprint("print 2 ", letter), func(o *api.Office) {
			o.Prints = append(o.Prints, api.Print{Specimen: 2, Letter: letter, Minutes: 30, Day: 50})
		})
		expectError(t, o, fmt.Sprint("print 1 ", letter), api.ErrBad)
		expectError(t, o, fmt.Sprint("print 4 ", letter), api.ErrNone)
		expectError(t, o, fmt.Sprint("print -1 ", letter), api.ErrNone)
		// What was printed before may be printed again.
		twice := done(t, o, fmt.Sprint("print 0 ", letter))
		expectDone(t, twice, fmt.Sprint("print 0 ", letter), func(o *api.Office) {
			o.Prints = append(o.Prints, api.Print{Specimen: 0, Letter: letter, Minutes: 15, Day: 50})
		})
	}
	for _, letter := range list(0, 4, -1, 255, 256, 257, 258, 259, -253, 65537, 1000000000, -1000000000) {
		expectError(t, o, fmt.Sprint("print 0 ", letter), api.ErrBad)
		expectError(t, o, fmt.Sprint("print 1 ", letter), api.ErrBad)
		expectError(t, o, fmt.Sprint("print 9 ", letter), api.ErrNone)
	}
}

// P11.1: there is room for MaxPrints; that there is none comes before what stops a class, and behind what is wrong.
func TestFullPrints(t *testing.T) {
	o := done(t, busy(), "shut 1")
	for len(o.Prints) < api.MaxPrints {
		expectRefused(t, o, "print 1 1", "stops 1 2 7 8")
		o = done(t, o, "print 0 1")
	}
	expectError(t, o, "print 0 1", api.ErrFull)
	expectError(t, o, "print 1 1", api.ErrFull)
	expectError(t, o, "print 3 1", api.ErrBad)
	expectError(t, o, "print 0 4", api.ErrBad)
	expectError(t, o, "print 4 1", api.ErrNone)
}

// P11.1 and P11.11: what stops a class, of each kind.
func TestStops(t *testing.T) {
	hot := lasting(30)
	hot.Run.Rows[3].Degrees[0] = 200
	late := lasting(30)
	late.Notes[2].At, late.Notes[3].At = 100, 200
	slices.SortStableFunc(late.Notes, func(a, b api.Note) int { return a.At - b.At })
	slow := lasting(5)
	slow.Clock = span(0, 1)
	for i, x := range []struct {
		test api.Test
		said [3]string
	}{
		{begun(3), [3]string{"stops 1 2 7 8", "stops 1 2 3 4 7 8", "stops 1 2 3 4 5 6 7 8"}},
		{begun(30), [3]string{"stops 1 2", "stops 1 2 3 4", "stops 1 2 3 4 5 6"}},
		{lasting(4), [3]string{"stops 7 8", "stops 7 8", "stops 7 8"}},
		{hot, [3]string{"stops 8", "stops 8", "stops 8"}},
		{late, [3]string{"", "stops 3 4", "stops 3 4"}},
		{slow, [3]string{"stops 7", "stops 7", "stops 7"}},
		{exampleTest(), [3]string{"", "", ""}},
	} {
		o := with(example(), func(o *api.Office) { o.Specimens[0].Test, o.Shut = x.test, list(0) })
		for j, said := range x.said {
			letter := uint8(j + 1)
			d := api.Deed{Word: "print", Nums: list(0, j+1)}
			stops, _ := class.Stops(x.test, letter)
			minutes := classOf(x.test, letter)
			if (minutes == 0) != (said != "") || said != "" && said != "stops "+strings.Trim(fmt.Sprint(stops), "[]") {
				t.Error(i, j, minutes, stops)
			}
			if said != "" {
				expect(t, o, d, said, api.ErrRefused, nil)
				continue
			}
			expect(t, o, d, "", api.OK, func(o *api.Office) {
				o.Prints = []api.Print{{Letter: letter, Minutes: minutes, Day: 40}}
			})
		}
	}
}

// kinds are the words of records that hang on nothing.
func kinds() map[string]uint8 {
	return map[string]uint8{"factory": api.RecFactory, "drawing": api.RecDrawing}
}

func TestFactoryAndDrawing(t *testing.T) {
	for word, kind := range kinds() {
		for _, x := range []struct{ id, at int }{{0, 0}, {9, 0}, {11, 1}, {19, 1}, {21, 2}, {35, 3}, {45, 4}, {55, 5}, {61, 6}, {9999, 6}} {
			expectDone(t, busy(), fmt.Sprint(word, " ", x.id), func(o *api.Office) {
				o.Records = slices.Insert(o.Records, x.at, api.Record{Id: x.id, Kind: kind})
			})
		}
		for _, id := range list(10, 20, 30, 40, 50, 60, -1, 10000, 1000000000, -1000000000) {
			expectError(t, busy(), fmt.Sprint(word, " ", id), api.ErrBad)
		}
		expectDone(t, with(example(), func(o *api.Office) { o.Records = nil }), word+" 5", func(o *api.Office) { o.Records = []api.Record{{Id: 5, Kind: kind}} })
	}
}

// P11.1: there is room for MaxRecords, which is asked first.
func TestFullRecords(t *testing.T) {
	o := done(t, example(), "shut 0; withdraw 1; factory 90; factory 91; factory 92; factory 93; factory 94; factory 95; factory 96; factory 97; factory 98")
	for _, x := range []struct {
		said, why string
		e         api.Errno
	}{
		{"factory 0", "", api.OK}, {"drawing 9999", "", api.OK}, {"batch 50 2", "", api.OK}, {"grant 50 1 5 0 0 0 0 0 0 2", "", api.OK},
		{"factory 1", "", api.ErrBad}, {"drawing -1", "", api.ErrBad}, {"batch 50 51", "", api.ErrBad}, {"batch 50 1", "broken 1", api.ErrRefused},
		{"grant 50 0 5 0 0 0 0 0 0 2", "", api.ErrBad}, {"grant 50 1 5 0 0 0 0 0 0 1", "broken 1", api.ErrRefused}, {"grant 50 1 60 0 0 0 0 0 0 2", "lacks 0", api.ErrRefused},
	} {
		if next, said, e := desk.Do(o, deed(x.said)); said != x.why || e != x.e || e == api.OK && len(next.Records) != api.MaxRecords {
			t.Error(x.said, said, e)
		}
		expectError(t, done(t, o, "drawing 99"), x.said, api.ErrFull)
	}
}

func TestBatch(t *testing.T) {
	o := busy()
	for _, x := range []struct {
		id, at int
		needs  []int
	}{
		{70, 6, list(10)}, {70, 6, list(20)}, {70, 6, list(40)}, {70, 6, list(60)}, {70, 6, list(10, 20, 30, 40)}, {70, 6, list(10, 60)}, {35, 3, list(10, 20, 30)}, {15, 1, list(10)}, {9999, 6, list(30)},
	} {
		d := api.Deed{Word: "batch", Nums: append(list(x.id), x.needs...)}
		expect(t, o, d, "", api.OK, func(o *api.Office) { o.Records = slices.Insert(o.Records, x.at, batch(x.id, x.needs)) })
	}
	for _, said := range []string{
		// Not a new Id, not one, needs that are not there, not before it, not in order, or not one each.
		"batch 60 10", "batch 10 20", "batch -1 10", "batch 10000 10", "batch 70 11", "batch 70 10 25", "batch 70 70", "batch 70 71", "batch 35 40", "batch 35 10 60", "batch 5 10", "batch 10 10",
		"batch 70 20 10", "batch 70 10 10", "batch 70 10 30 20", "batch 70 -1", "batch 70 -1000000000 10", "batch 70 10 1000000000",
	} {
		expectError(t, o, said, api.ErrBad)
	}
}

// P11.1 and P11.11: the first need that is broken, since it is withdrawn, or hangs on what is.
func TestBroken(t *testing.T) {
	o := busy()
	for _, x := range []struct {
		before, needs, why string
	}{
		{"", "50", "broken 50"}, {"", "10 50", "broken 50"}, {"", "10 20 50 60", "broken 50"},
		{"withdraw 10", "30", "broken 30"}, {"withdraw 10", "10 30", "broken 10"}, {"withdraw 10", "20 30 40 50", "broken 30"}, {"withdraw 10", "20 40", ""},
		{"withdraw 20", "20 30 40 60", "broken 20"}, {"withdraw 20", "10 30", "broken 30"}, {"withdraw 20", "10 40", "broken 40"}, {"withdraw 20", "60", "broken 60"}, {"withdraw 20", "10", ""},
		{"restore 50", "50", ""}, {"restore 50; withdraw 20", "40 60", "broken 40"}, {"restore 50; withdraw 20", "60", ""},
		{"withdraw 60", "10 60", "broken 60"}, {"withdraw 60; day 51", "60", "broken 60"}, {"withdraw 60; day 51; restore 60", "60", ""},
		{"withdraw 60; withdraw 10; restore 60", "10 60", "broken 10"},
	} {
		now := done(t, o, x.before)
		for _, said := range []string{"batch 70 ", "grant 70 3 10 2100 7 30 0 0 0 ", "grant 70 3 60 2100 7 30 0 0 0 "} {
			why, want := x.why, api.ErrRefused
			if why == "" && strings.Contains(said, "60") {
				why = "lacks 0"
			}
			if why == "" {
				want = api.OK
			}
			if _, words, e := desk.Do(now, deed(said+x.needs)); words != why || e != want {
				t.Error(x, said, words, e)
			}
		}
		expectError(t, now, "batch 40 "+x.needs, api.ErrBad)
	}
}

func TestGrant(t *testing.T) {
	o := busy()
	expectDone(t, o, "grant 70 3 10 2100 7 30 1 2 3 20 30", func(o *api.Office) {
		o.Records = append(o.Records, certificate(70, list(20, 30)))
		o.Grants = append(o.Grants, api.Grant{Id: 70, Wish: wish(3, 10, 2100, 7, 30, 1, 2, 3)})
	})
	expectDone(t, o, "grant 45 1 1 0 7 100000 0 0 0 10 20 30 40", func(o *api.Office) {
		o.Records = slices.Insert(o.Records, 4, certificate(45, list(10, 20, 30, 40)))
		o.Grants = slices.Insert(o.Grants, 1, api.Grant{Id: 45, Wish: wish(1, 1, 0, 7, 100000, 0, 0, 0)})
	})
	expectDone(t, o, "grant 11 2 15 1100 7 30 0 0 100000 10", func(o *api.Office) {
		o.Records = slices.Insert(o.Records, 1, certificate(11, list(10)))
		o.Grants = slices.Insert(o.Grants, 0, api.Grant{Id: 11, Wish: wish(2, 15, 1100, 7, 30, 0, 0, 100000)})
	})
	for _, said := range []string{
		"60 3 10 2100 7 30 0 0 0 20", "10 3 10 2100 7 30 0 0 0 20", "-1 3 10 2100 7 30 0 0 0 20", "10000 3 10 2100 7 30 0 0 0 20", "70 3 10 2100 7 30 0 0 0 21", "70 3 10 2100 7 30 0 0 0 70", "70 3 10 2100 7 30 0 0 0 20 10", "70 3 10 2100 7 30 0 0 0 20 20", "15 3 10 2100 7 30 0 0 0 20",
		"70 0 10 2100 7 30 0 0 0 20", "70 4 10 2100 7 30 0 0 0 20", "70 -1 10 2100 7 30 0 0 0 20", "70 257 10 2100 7 30 0 0 0 20", "70 259 10 2100 7 30 0 0 0 20", "70 -253 10 2100 7 30 0 0 0 20", "70 256 10 2100 7 30 0 0 0 20",
		"70 3 0 2100 7 30 0 0 0 20", "70 3 61 2100 7 30 0 0 0 20", "70 3 -1 2100 7 30 0 0 0 20",
		"70 3 10 -1 7 30 0 0 0 20", "70 3 10 2100 100001 30 0 0 0 20", "70 3 10 2100 7 -1 0 0 0 20", "70 3 10 2100 7 30 100001 0 0 20", "70 3 10 2100 7 30 0 -1 0 20", "70 3 10 2100 7 30 0 0 100001 20", "70 3 10 2100 7 30 0 0 -1000000000 20",
		// What is wrong comes before what is refused.
		"70 0 10 2100 7 30 0 0 0 50", "70 3 61 9999 8 0 0 0 0 50", "60 3 10 9999 7 30 0 0 0 50", "70 3 10 9999 7 100001 0 0 0 20",
	} {
		expectError(t, o, "grant "+said, api.ErrBad)
	}
}

// P11.1 and P11.11: the first clause that no specimen proves that is shut; a need that is broken comes before it.
func TestLacks(t *testing.T) {
	o := busy()
	for _, x := range []struct{ wish, why string }{
		{"3 10 2100 7 30", ""}, {"3 10 2101 7 30", "lacks 0"}, {"3 10 2101 8 0", "lacks 0"}, {"3 10 2100 8 0", "lacks 1"}, {"3 10 2100 7 29", ""}, {"3 10 2100 7 20", ""}, {"3 10 2100 7 19", "lacks 2"},
		{"3 11 2100 7 20", ""}, {"3 15 2100 7 20", ""}, {"3 16 2100 7 20", "lacks 0"}, {"3 16 1100 7 20", ""}, {"3 25 1100 7 20", ""}, {"3 26 1100 7 20", "lacks 2"}, {"3 30 1100 7 100000", "lacks 2"}, {"3 31 1100 7 100000", "lacks 0"}, {"1 60 0 7 100000", "lacks 0"},
		// These would need the specimens 1 and 3, which are not shut.
		{"3 5 3100 8 0", "lacks 0"}, {"3 5 4100 7 20", "lacks 0"}, {"3 1 0 8 0", "lacks 1"}, {"3 5 2100 7 0", "lacks 2"},
	} {
		want := api.ErrRefused
		if x.why == "" {
			want = api.OK
		}
		if _, said, e := desk.Do(o, deed("grant 70 "+x.wish+" 0 0 0 20")); said != x.why || e != want {
			t.Error(x, said, e)
		}
		expectRefused(t, o, "grant 70 "+x.wish+" 0 0 0 20 50", "broken 50")
	}
	// With the last one shut it proves what it can.
	shut := done(t, o, "shut 3")
	expectRefused(t, shut, "grant 70 3 10 4101 7 20 0 0 0 20", "lacks 0")
	expectRefused(t, shut, "grant 70 3 11 4100 7 20 0 0 0 20", "lacks 0")
	if _, said, e := desk.Do(shut, deed("grant 70 3 10 4100 7 20 0 0 0 20")); said != "" || e != api.OK {
		t.Error(said, e)
	}
	// With none shut, and with no specimen at all, nothing is covered.
	expectRefused(t, example(), "grant 7 1 1 0 0 0 0 0 0 1", "lacks 0")
	expectRefused(t, with(example(), func(o *api.Office) { o.Specimens = nil }), "grant 7 1 1 0 0 0 0 0 0 1", "lacks 0")
}

func TestLetters(t *testing.T) {
	o := busy()
	add := func(l api.Letter) func(o *api.Office) {
		return func(o *api.Office) { o.Letters = append(o.Letters, l) }
	}
	for _, id := range list(10, 20, 30, 40, 60) {
		expectDone(t, o, fmt.Sprint("withdraw ", id), add(withdraw(9, 50, id)))
		expectError(t, o, fmt.Sprint("restore ", id), api.ErrBad)
		gone := done(t, o, fmt.Sprint("withdraw ", id))
		expectError(t, gone, fmt.Sprint("withdraw ", id), api.ErrBad)
		expectDone(t, gone, fmt.Sprint("restore ", id), add(restore(10, 50, id)))
		expectDone(t, done(t, gone, "day 51"), fmt.Sprint("restore ", id), add(restore(10, 51, id)))
	}
	expectError(t, o, "withdraw 50", api.ErrBad)
	expectDone(t, o, "restore 50", add(restore(9, 50, 50)))
	for _, id := range list(-1, 0, 9, 11, 45, 61, 9999, 10000, 1000000000, -1000000000) {
		expectError(t, o, fmt.Sprint("withdraw ", id), api.ErrNone)
		expectError(t, o, fmt.Sprint("restore ", id), api.ErrNone)
	}
	// What just hangs on what is withdrawn is not withdrawn itself.
	broken := done(t, o, "withdraw 20")
	expectError(t, broken, "restore 40", api.ErrBad)
	expectDone(t, broken, "withdraw 40", add(withdraw(10, 50, 40)))
	// The first letter of all.
	expectDone(t, example(), "withdraw 2", add(withdraw(0, 40, 2)))
	expectError(t, example(), "restore 2", api.ErrBad)
}

// P11.1: which letter is the latest one, whatever the order of their days is.
func TestLatestLetter(t *testing.T) {
	for i, x := range []struct {
		letters []api.Letter
		gone    bool
	}{
		{[]api.Letter{withdraw(1, 30, 1)}, true},
		{[]api.Letter{withdraw(1, 30, 1), restore(2, 20, 1)}, true},
		{[]api.Letter{restore(1, 30, 1), withdraw(2, 20, 1)}, false},
		{[]api.Letter{withdraw(1, 20, 1), restore(2, 20, 1)}, false},
		{[]api.Letter{restore(1, 20, 1), withdraw(2, 20, 1)}, true},
		{[]api.Letter{withdraw(1, 40, 1), restore(2, 40, 1), withdraw(3, 39, 1)}, false},
		{[]api.Letter{withdraw(1, 40, 1), restore(2, 40, 2)}, true},
		{[]api.Letter{withdraw(1, 0, 1), withdraw(2, 0, 1)}, true},
	} {
		o := with(example(), func(o *api.Office) { o.Letters = x.letters })
		last := x.letters[len(x.letters)-1].Id + 1
		right, wrong, l := "withdraw 1", "restore 1", withdraw(last, 40, 1)
		if x.gone {
			right, wrong, l = wrong, right, restore(last, 40, 1)
		}
		expectError(t, o, wrong, api.ErrBad)
		expectDone(t, o, right, func(o *api.Office) { o.Letters = append(o.Letters, l) })
		if holds, _, _, e := desk.Tell(o, 1); holds || e != api.ErrNone {
			t.Error(i, holds, e)
		}
	}
}

// P11.1: there is room for MaxLetters, and for Ids up to MaxId; this comes before whether a record is withdrawn.
func TestFullLetters(t *testing.T) {
	many := with(example(), func(o *api.Office) {
		for i := range api.MaxLetters - 1 {
			o.Letters = append(o.Letters, withdraw(i, 3, 2))
		}
	})
	high := with(example(), func(o *api.Office) { o.Letters = []api.Letter{withdraw(9998, 3, 2)} })
	for _, o := range []api.Office{many, high} {
		last := o.Letters[len(o.Letters)-1].Id
		expectError(t, o, "withdraw 2", api.ErrBad)
		expectError(t, o, "restore 1", api.ErrBad)
		expectDone(t, o, "withdraw 1", func(o *api.Office) { o.Letters = append(o.Letters, withdraw(last+1, 40, 1)) })
		full := done(t, o, "restore 2")
		for _, said := range []string{"withdraw 1", "withdraw 2", "restore 1", "restore 2"} {
			expectError(t, full, said, api.ErrFull)
		}
		expectError(t, full, "withdraw 3", api.ErrNone)
		expectError(t, full, "restore 3", api.ErrNone)
	}
}

// P11.2: all deeds of a log, the first error, its place, and what was said.
func TestReplay(t *testing.T) {
	o := busy()
	all := deeds("note 1 60 5 100 0 0; row 1 3 100; shut 1; day 60; withdraw 20; factory 25; restore 20; grant 70 3 10 2100 7 30 0 0 0 25; print 2 3")
	next, at, said, e := desk.Replay(o, all)
	want := with(o, func(o *api.Office) {
		o.Day, o.Shut = 60, list(0, 1, 2)
		x := &o.Specimens[1].Test
		x.Notes = []api.Note{{At: 60, Kind: 5, Value: 100}}
		x.Run.Rows, x.End = append(x.Run.Rows, api.Row{Press: 3, Degrees: list(100)}), 240
		o.Letters = append(o.Letters, withdraw(9, 60, 20), restore(10, 60, 20))
		o.Records = append(slices.Insert(o.Records, 2, factory(25)), certificate(70, list(25)))
		o.Grants = append(o.Grants, api.Grant{Id: 70, Wish: wish(3, 10, 2100, 7, 30, 0, 0, 0)})
		o.Prints = append(o.Prints, api.Print{Specimen: 2, Letter: 3, Minutes: 30, Day: 60})
		o.Log = append(o.Log, all...)
	})
	if !same(next, want) || at != 0 || said != "" || e != api.OK {
		t.Error(shown(next), at, said, e)
	}
	for _, log := range [][]api.Deed{nil, {}} {
		if next, at, said, e := desk.Replay(o, log); !same(next, o) || at != 0 || said != "" || e != api.OK {
			t.Error(next, at, said, e)
		}
	}
	for i, x := range []struct {
		said, why string
		e         api.Errno
	}{{"day 5", "", api.ErrBad}, {"day", "", api.ErrDeed}, {"day 2000000000", "", api.ErrArg}, {"shut 9", "", api.ErrNone}, {"batch 80 50", "broken 50", api.ErrRefused}, {"grant 80 1 60 0 0 0 0 0 0 10", "lacks 0", api.ErrRefused}} {
		for place := range len(all) + 1 {
			log := slices.Insert(slices.Clone(all), place, deed(x.said))
			for _, more := range [][]api.Deed{nil, deeds("day 3; deed 1")} {
				next, at, said, e := desk.Replay(o, append(log, more...))
				if !same(next, api.Office{}) || at != place || said != x.why || e != x.e {
					t.Error(i, place, next, at, said, e)
				}
			}
		}
	}
	wrong := with(o, func(o *api.Office) { o.Shut = list(2, 0) })
	for _, log := range [][]api.Deed{nil, all, deeds("deed 1")} {
		if next, at, said, e := desk.Replay(wrong, log); !same(next, api.Office{}) || at != 0 || said != "" || e != api.ErrOffice {
			t.Error(next, at, said, e)
		}
	}
}

// P11.2: a log that is longer than there is room for.
func TestReplayLong(t *testing.T) {
	for kept := range 3 {
		o := with(example(), func(o *api.Office) { o.Log = slices.Repeat(deeds("day 40"), kept) })
		room := api.MaxDeeds - kept
		if next, at, said, e := desk.Replay(o, slices.Repeat(deeds("day 40"), room)); len(next.Log) != api.MaxDeeds || at != 0 || said != "" || e != api.OK {
			t.Error(kept, len(next.Log), at, said, e)
		}
		if next, at, said, e := desk.Replay(o, slices.Repeat(deeds("day 40"), room+1)); !same(next, api.Office{}) || at != room || said != "" || e != api.ErrFull {
			t.Error(kept, next, at, said, e)
		}
	}
}

// P11.3: what is told of certificates, on one day and the next.
func TestTell(t *testing.T) {
	o := busy()
	expectTold(t, o, 40, true, 15, list(20, 40))
	expectTold(t, o, 60, true, 20, list(20, 40, 60))
	for _, x := range []struct {
		said    string
		holds   [2]bool
		forty   []int
		sixty   []int
		minutes [2]int
	}{
		{"withdraw 10", [2]bool{true, true}, list(20, 40), list(20, 40, 60), [2]int{15, 20}},
		{"withdraw 20", [2]bool{false, false}, list(20), list(20), [2]int{15, 20}},
		{"withdraw 40", [2]bool{false, false}, list(40), list(40), [2]int{15, 20}},
		{"withdraw 40; withdraw 20; withdraw 10", [2]bool{false, false}, list(20, 40), list(50), [2]int{15, 20}},
		{"withdraw 60", [2]bool{true, false}, list(20, 40), list(60), [2]int{15, 20}},
		{"restore 50", [2]bool{true, true}, list(20, 40), list(50, 60), [2]int{15, 20}},
		{"restore 50; withdraw 20", [2]bool{false, true}, list(20), list(50, 60), [2]int{15, 20}},
		{"withdraw 20; day 60; restore 20", [2]bool{true, true}, list(20, 40), list(20, 40, 60), [2]int{15, 20}},
		{"shut 3; shut 1", [2]bool{true, true}, list(20, 40), list(20, 40, 60), [2]int{15, 20}},
	} {
		now := done(t, o, x.said)
		expectTold(t, now, 40, x.holds[0], x.minutes[0], x.forty)
		expectTold(t, now, 60, x.holds[1], x.minutes[1], x.sixty)
	}
	for _, id := range append(beyond(), -1, 0, 10, 20, 30, 50, 41, 61, 9999, 10000) {
		if h, n, why, e := desk.Tell(o, id); h || n != 0 || len(why) > 0 || e != api.ErrNone {
			t.Error(id, h, n, why, e)
		}
	}
	wrong := with(o, func(o *api.Office) { o.Day = 49 })
	for _, id := range list(40, 60, 41, -1) {
		if h, n, why, e := desk.Tell(wrong, id); h || n != 0 || len(why) > 0 || e != api.ErrOffice {
			t.Error(id, h, n, why, e)
		}
	}
}

// P11.3: the class of a certificate is the best one that those specimens cover that are shut, whatever it was granted for.
func TestToldMinutes(t *testing.T) {
	o := with(busy(), func(o *api.Office) { o.Specimens[3].Test = lasting(45) })
	for _, minutes := range list(1, 5, 7, 10) {
		now := done(t, o, fmt.Sprint("grant 70 2 ", minutes, " 1500 7 30 0 0 0 20"))
		// The specimen 0 has 15, and the last clause asks 5 more, for which 2 is enough, of 30; 3 has 45.
		expectTold(t, now, 70, true, 15, list(20, 70))
		expectTold(t, done(t, now, "shut 1"), 70, true, 15, list(20, 70))
		expectTold(t, done(t, now, "shut 3"), 70, true, 30, list(20, 70))
	}
	// Less than a class: just 4 minutes are asked, and 5 more of what has 5.
	low := with(busy(), func(o *api.Office) {
		o.Clauses = []api.Clause{{Kind: api.ClauseUpTo, Over: 1}}
		o.Grants[0].Wish.Minutes = 4
	})
	low.Specimens[0].Test, low.Specimens[2].Test, low.Prints, low.Grants[1].Wish = lasting(5), lasting(5), nil, low.Grants[0].Wish
	low.Grants[0].Wish.Props[0], low.Grants[1].Wish.Props = 0, make([]int, 6)
	expectTold(t, low, 40, true, 0, list(20, 40))
	for _, id := range list(40, 60) {
		at := slices.IndexFunc(o.Grants, func(g api.Grant) bool { return g.Id == id })
		for _, shut := range [][]int{{0, 2}, {0, 1, 2}, {0, 2, 3}, {0, 1, 2, 3}} {
			now := with(o, func(o *api.Office) { o.Shut = shut })
			var specimens []api.Specimen
			for _, i := range shut {
				specimens = append(specimens, o.Specimens[i])
			}
			best, _ := extend.Best(o.Clauses, specimens, o.Grants[at].Wish)
			rests, _ := trust.Rests(o.Records, o.Letters, o.Day, id)
			expectTold(t, now, id, true, best, rests)
		}
	}
}
