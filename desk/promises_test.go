package desk_test

import (
	"fmt"
	"math/rand"
	"slices"
	"testing"

	"cottonpad/api"
	"cottonpad/class"
	"cottonpad/desk"
	"cottonpad/furnace"
	"cottonpad/trust"
)

// worked is an office after so many deeds that are aimed at it, of which those that are none are left out.
func worked(g *rand.Rand, o api.Office, count int) api.Office {
	for range count {
		if next, _, e := desk.Do(o, aimed(g, o)); e == api.OK {
			o = next
		}
	}
	return o
}

// P11.6 and N11: an office is valid after each deed that is done; and what is not done changes nothing.
func TestValidAfterDeeds(t *testing.T) {
	g := rand.New(rand.NewSource(30))
	count := map[api.Errno]int{}
	for range 150 {
		o := someOffice(g)
		for range 60 {
			d, before := aimed(g, o), shown(o)
			next, said, e := desk.Do(o, d)
			count[e]++
			if shown(o) != before {
				t.Fatal(d, "changes what it is done in")
			}
			if e != api.OK {
				if !same(next, api.Office{}) || (said != "") != (e == api.ErrRefused) {
					t.Fatal(d, next, said, e)
				}
				continue
			}
			if desk.Check(next) != api.OK || !isValid(next) || said != "" || len(next.Log) != len(o.Log)+1 {
				t.Fatal(d, said, shown(o), shown(next))
			}
			o = next
		}
	}
	if count[api.OK] < 1000 || count[api.ErrRefused] < 500 {
		t.Error("too few", count)
	}
}

// P11.6: what a deed names, and the Log, is all that is changed.
func TestNothingElseChanges(t *testing.T) {
	// The parts of an office that a word may change.
	parts := map[string]string{
		"day": "day", "row": "specimens", "note": "specimens", "shut": "shut", "print": "prints", "factory": "records", "drawing": "records", "batch": "records", "grant": "records grants", "withdraw": "letters", "restore": "letters",
	}
	g := rand.New(rand.NewSource(31))
	for range 800 {
		o := someOffice(g)
		d := aimed(g, o)
		next, _, e := desk.Do(o, d)
		if e != api.OK {
			continue
		}
		back := copied(next)
		back.Log = back.Log[:len(o.Log)]
		switch parts[d.Word] {
		case "day":
			back.Day = o.Day
		case "specimens":
			back.Specimens[d.Nums[0]] = o.Specimens[d.Nums[0]]
		case "shut":
			back.Shut = slices.DeleteFunc(back.Shut, func(i int) bool { return i == d.Nums[0] })
		case "prints":
			back.Prints = back.Prints[:len(o.Prints)]
		case "letters":
			back.Letters = back.Letters[:len(o.Letters)]
		case "records grants":
			back.Grants = slices.DeleteFunc(back.Grants, func(g api.Grant) bool { return g.Id == d.Nums[0] })
			fallthrough
		case "records":
			back.Records = slices.DeleteFunc(back.Records, func(r api.Record) bool { return r.Id == d.Nums[0] })
		}
		if !same(back, o) {
			t.Fatal(d, "\n", shown(o), "\n", shown(next))
		}
	}
}

// P11.2, P11.7 and N11: an office that was reached by deeds is reached by its log, also by the text of it.
func TestReplayed(t *testing.T) {
	g := rand.New(rand.NewSource(32))
	deeds := 0
	for range 200 {
		first := someOffice(g)
		last := worked(g, first, 80)
		log := last.Log[len(first.Log):]
		deeds += len(log)
		if next, at, said, e := desk.Replay(first, log); !same(next, last) || at != 0 || said != "" || e != api.OK {
			t.Fatal(at, said, e, shown(first), shown(last), shown(next))
		}
		text, h := desk.Write(log)
		read, line, e := desk.Read(text)
		next, _, _, f := desk.Replay(first, read)
		if line != 0 || e != api.OK || f != api.OK || h != api.OK || !same(next, last) {
			t.Fatal(line, e, f, h, text)
		}
		// In two parts, too.
		half := len(log) / 2
		middle, _, _, e := desk.Replay(first, log[:half])
		next, _, _, f = desk.Replay(middle, log[half:])
		if e != api.OK || f != api.OK || !same(next, last) {
			t.Fatal(e, f)
		}
	}
	if deeds < 3000 {
		t.Error("too few deeds", deeds)
	}
}

// P11.2: Replay is what Do does, one deed after the other.
func TestReplayIsDo(t *testing.T) {
	g := rand.New(rand.NewSource(33))
	for range 400 {
		o := someOffice(g)
		var log []api.Deed
		now, place, words, want := o, 0, "", api.OK
		for i := range between(g, 0, 9) {
			d := aimed(g, now)
			log = append(log, d)
			if want != api.OK {
				continue
			}
			next, said, e := desk.Do(now, d)
			if e != api.OK {
				place, words, want = i, said, e
				next = api.Office{}
			}
			now = next
			// Of most of them the deeds that are none are left out.
			if e != api.OK && g.Intn(5) > 0 {
				log, now, place, words, want = log[:i], o, 0, "", api.OK
				for _, d := range log {
					now, _, _ = desk.Do(now, d)
				}
				break
			}
		}
		if next, at, said, e := desk.Replay(o, log); !same(next, now) || at != place || said != words || e != want {
			t.Fatal(log, shown(o), at, said, e, place, words, want)
		}
	}
}

// P11.7: what was printed of a specimen is its class, whatever is done later; and a test that is shut stays as it is.
func TestPrintedStays(t *testing.T) {
	g := rand.New(rand.NewSource(34))
	prints := 0
	for range 100 {
		first := worked(g, someOffice(g), 30)
		last := worked(g, first, 50)
		for _, i := range first.Shut {
			if !same(first.Specimens[i], last.Specimens[i]) || !slices.Contains(last.Shut, i) {
				t.Fatal(i, shown(first), shown(last))
			}
		}
		if !same(first.Prints, last.Prints[:len(first.Prints)]) {
			t.Fatal(shown(first.Prints), shown(last.Prints))
		}
		for _, p := range last.Prints {
			prints++
			minutes, e := class.Class(last.Specimens[p.Specimen].Test, p.Letter)
			if minutes.Lo != p.Minutes || e != api.OK {
				t.Fatal(p, minutes, e)
			}
		}
	}
	if prints < 100 {
		t.Error("too few", prints)
	}
}

// P11.7: a test of years ago, from its first row on, is replayed from the text of its log to the same class.
func TestYearsAgo(t *testing.T) {
	o := with(example(), func(o *api.Office) {
		x := &o.Specimens[0].Test
		x.Run.Rows, x.End, x.Notes = x.Run.Rows[:1], 60, nil
	})
	said := ""
	for _, row := range exampleTest().Run.Rows[1:] {
		said += fmt.Sprint("; row 0 ", row.Press, " ", row.Degrees[0])
	}
	for _, n := range exampleTest().Notes {
		said += fmt.Sprint("; note 0 ", n.At, " ", n.Kind, " ", n.Value, " ", n.Off.Lo, " ", n.Off.Hi)
	}
	shut := done(t, o, said+"; shut 0; print 0 1; print 0 2; print 0 3")
	if !same(shut.Specimens[0].Test, exampleTest()) {
		t.Error(shown(shut.Specimens[0].Test))
	}
	late := done(t, shut, "day 9000; factory 5; withdraw 1; batch 6 2 5")
	text, e := desk.Write(late.Log)
	log, _, f := desk.Read(text)
	next, _, _, h := desk.Replay(o, log)
	if e != api.OK || f != api.OK || h != api.OK || !same(next, late) {
		t.Error(e, f, h)
	}
	if want := []api.Print{{Letter: 1, Minutes: 20, Day: 40}, {Letter: 2, Minutes: 15, Day: 40}, {Letter: 3, Minutes: 5, Day: 40}}; !same(next.Prints, want) {
		t.Error(next.Prints)
	}
}

// shows returns whether a note shows that its criterion holds, and that it has failed, by all values that may be true.
func shows(n api.Note, limit int) (held, failed bool) {
	held, failed = true, true
	for off := n.Off.Lo; off <= n.Off.Hi; off++ {
		held, failed = held && n.Value-off <= limit, failed && n.Value-off > limit
	}
	return held, failed
}

// agrees returns whether a criterion may have failed in a second by the clock, or later than all of them.
func agrees(x api.Test, criterion, second int) bool {
	for _, n := range x.Notes {
		if int(n.Kind) != criterion {
			continue
		}
		held, failed := shows(n, x.Limits[criterion-1])
		if held && n.At >= second || failed && n.At < second {
			return false
		}
	}
	return true
}

// seconds are all those by the clock in which a criterion may have failed.
func seconds(x api.Test, criterion int) []int {
	var all []int
	for second := range x.End + 1 {
		if agrees(x, criterion, second) {
			all = append(all, second)
		}
	}
	return all
}

// someDegree is what may be the true temperature of a couple (by its index) in a minute, and whether it works.
func someDegree(g *rand.Rand, x api.Run, i, minute int) (degree int, works bool) {
	c, last := x.Couples[i], len(x.Rows)
	if c.Breaks > 0 {
		last = min(last, c.Breaks-1)
	}
	if minute > last {
		return 0, false
	}
	lag, err := someOf(g, list(c.Lag.Lo, c.Lag.Hi)), someOf(g, list(c.Error.Lo, c.Error.Hi))
	return x.Rows[min(last, minute+lag)-1].Degrees[i] - err, true
}

// spoiled returns the first minute in which a furnace left a limit, with some temperatures and pressures that may be true; one after the last, if it did not.
func spoiled(g *rand.Rand, x api.Test) int {
	means, curve := 0, 0
	for minute := 1; minute <= len(x.Run.Rows); minute++ {
		asked, _ := furnace.At(x.Run.Curve, minute)
		sum, working := 0, 0
		for i := range x.Run.Couples {
			degree, works := someDegree(g, x.Run, i, minute)
			if !works {
				continue
			}
			sum, working = sum+degree, working+1
			if minute >= x.Rules.SingleFrom && max(degree-asked, asked-degree) > x.Rules.Single {
				return minute
			}
		}
		if working == 0 {
			return minute
		}
		means, curve = means+840/working*sum, curve+840*asked
		part := -1
		for _, s := range x.Rules.Steps {
			if s.From <= minute {
				part = s.Part
			}
		}
		if part >= 0 && 1000*max(means-curve, curve-means) > part*curve {
			return minute
		}
		press := x.Run.Rows[minute-1].Press - someOf(g, list(x.Run.Gauge.Lo, x.Run.Gauge.Hi))
		if minute >= x.Rules.PressFrom && (press < x.Rules.Press.Lo || press > x.Rules.Press.Hi) {
			return minute
		}
	}
	return len(x.Run.Rows) + 1
}

// expectClass checks that a test has a class for a letter whatever is true.
func expectClass(t *testing.T, g *rand.Rand, x api.Test, letter uint8, minutes int) {
	t.Helper()
	if x.End-x.Clock.Hi < 60*minutes || len(x.Run.Rows) < minutes {
		t.Fatal("ends too soon", letter, minutes, shown(x))
	}
	for criterion := 1; criterion <= 2*int(letter); criterion++ {
		for _, second := range seconds(x, criterion) {
			if second-x.Clock.Hi <= 60*minutes {
				t.Fatal("may fail", criterion, second, letter, minutes, shown(x))
			}
		}
	}
	for range 8 {
		if spoiled(g, x) <= minutes {
			t.Fatal("spoiled", letter, minutes, shown(x))
		}
	}
}

// P11.9 and N2: a class that is printed holds whatever is true.
func TestPrintedHolds(t *testing.T) {
	g := rand.New(rand.NewSource(35))
	prints := map[int]int{}
	for range 250 {
		o := worked(g, someOffice(g), 30)
		for _, p := range o.Prints {
			expectClass(t, g, o.Specimens[p.Specimen].Test, p.Letter, p.Minutes)
			prints[p.Minutes]++
		}
	}
	if prints[5] < 30 || prints[10] < 30 || prints[15] < 10 {
		t.Error("too few", prints)
	}
}

// P11.9, P3.6 and N3: a certificate is granted only if each property that a rule asks is proved by a test that is shut, whose class holds whatever is true; and, if nothing else is wrong, always then.
func TestGrantedIsProved(t *testing.T) {
	g := rand.New(rand.NewSource(36))
	var count [2]int
	for range 1500 {
		o := someOffice(g)
		o.Records, o.Letters, o.Grants = []api.Record{factory(1)}, nil, nil
		w := someWish(g)
		d := api.Deed{Word: "grant", Nums: append(append(list(7, int(w.Letter), w.Minutes), w.Props...), 1)}
		next, said, e := desk.Do(o, d)
		if lack := lacks(o, w); lack >= 0 {
			count[1]++
			if said != fmt.Sprint("lacks ", lack) || e != api.ErrRefused {
				t.Fatal(said, e, lack, shown(o))
			}
			continue
		}
		count[0]++
		if e != api.OK || len(next.Grants) != 1 {
			t.Fatal(said, e, shown(o))
		}
		for _, c := range o.Clauses {
			at := slices.IndexFunc(next.Shut, func(i int) bool { return proves(c, next.Specimens[i], w) })
			expectClass(t, g, next.Specimens[next.Shut[at]].Test, w.Letter, w.Minutes+c.Over)
		}
	}
	if min(count[0], count[1]) < 100 {
		t.Error("too few of one kind", count)
	}
}

// P11.3 and P11.9: a certificate holds just as long as what it hangs on, on each day, and what is told of it is why.
func TestHoldsAsLong(t *testing.T) {
	g := rand.New(rand.NewSource(37))
	var count [2]int
	for range 400 {
		o := worked(g, someOf(g, []api.Office{someOffice(g), busy()}), 20)
		for range 4 {
			for _, grant := range o.Grants {
				is, minutes, why, e := desk.Tell(o, grant.Id)
				if is != holds(o, grant.Id) || e != api.OK {
					t.Fatal(grant.Id, is, e, shown(o))
				}
				var told []int
				if is {
					count[0]++
					expectRests(t, o, grant.Id, why)
					told, _ = trust.Rests(o.Records, o.Letters, o.Day, grant.Id)
				} else {
					count[1]++
					expectCauses(t, o, grant.Id, why)
					told, _ = trust.Causes(o.Records, o.Letters, o.Day, grant.Id)
				}
				if !slices.Equal(told, why) {
					t.Fatal(grant.Id, why, told, shown(o))
				}
				if want := bestOf(o, grant.Wish); minutes != want {
					t.Fatal(grant.Id, minutes, want, shown(o))
				}
			}
			o = worked(g, o, 4)
		}
	}
	if min(count[0], count[1]) < 200 {
		t.Error("too few of one kind", count)
	}
}

// bestOf is the greatest class of a wish that is covered by what is shut.
func bestOf(o api.Office, w api.Wish) int {
	best := 0
	for _, w.Minutes = range list(5, 10, 15, 20, 30, 45, 60) {
		if lacks(o, w) < 0 {
			best = w.Minutes
		}
	}
	return best
}

// without is an office in which just some records are withdrawn.
func without(o api.Office, ids ...int) api.Office {
	o.Letters = nil
	for _, id := range ids {
		o.Letters = append(o.Letters, withdraw(0, o.Day, id))
	}
	return o
}

// gone are the Ids of all records that are withdrawn, or of all that are not.
func gone(o api.Office, isGone bool) []int {
	var ids []int
	for _, r := range o.Records {
		if withdrawn(o, r.Id) == isGone {
			ids = append(ids, r.Id)
		}
	}
	return ids
}

// expectRests checks that a record holds with just these, but with none of them less.
func expectRests(t *testing.T, o api.Office, id int, why []int) {
	t.Helper()
	others := slices.DeleteFunc(gone(without(o), false), func(id int) bool { return slices.Contains(why, id) })
	if !holds(without(o, others...), id) || !slices.Contains(why, id) {
		t.Fatal("rests on more", id, why, shown(o))
	}
	for _, one := range why {
		if !holds(o, one) || holds(without(o, append(others, one)...), id) {
			t.Fatal("rests on less", id, one, why, shown(o))
		}
	}
}

// expectCauses checks that a record would hold if none of these were withdrawn, but with none of them less.
func expectCauses(t *testing.T, o api.Office, id int, why []int) {
	t.Helper()
	others := slices.DeleteFunc(gone(o, true), func(id int) bool { return slices.Contains(why, id) })
	if !holds(without(o, others...), id) {
		t.Fatal("more causes", id, why, shown(o))
	}
	for _, one := range why {
		if !withdrawn(o, one) || holds(without(o, append(others, one)...), id) {
			t.Fatal("fewer causes", id, one, why, shown(o))
		}
	}
}

// hangs returns whether a record is another one, or hangs on it in each way by records that hold.
func hangs(o api.Office, id, on int) bool {
	o.Letters = append(slices.Clone(o.Letters), withdraw(9999, o.Day, on))
	return !holds(o, id)
}

// P11.10 and N8: what is withdrawn takes with it just what hung on it; restored on the same day all is as it was but for the letters.
func TestWithdrawnAndRestored(t *testing.T) {
	g := rand.New(rand.NewSource(38))
	var taken, kept, back int
	for range 500 {
		o := worked(g, someOffice(g), 15)
		for _, r := range o.Records {
			next, _, e := desk.Do(o, api.Deed{Word: "withdraw", Nums: list(r.Id)})
			if e != api.OK {
				continue
			}
			takes, _ := trust.Takes(o.Records, o.Letters, o.Day, r.Id)
			for _, other := range o.Records {
				before, after := holds(o, other.Id), holds(next, other.Id)
				if before && after == hangs(o, other.Id, r.Id) || !before && after || (before && !after) != slices.Contains(takes, other.Id) {
					t.Fatal(r.Id, other.Id, before, after, shown(o))
				}
				if before && !after {
					taken++
				} else if after {
					kept++
				}
			}
			again, _, e := desk.Do(next, api.Deed{Word: "restore", Nums: list(r.Id)})
			if e == api.ErrFull {
				continue
			}
			back++
			expectAsBefore(t, g, o, again, e)
		}
	}
	if taken < 500 || kept < 500 || back < 500 {
		t.Error("too few", taken, kept, back)
	}
}

// expectAsBefore checks that an office is as one before it, but for two letters and two deeds more.
func expectAsBefore(t *testing.T, g *rand.Rand, o, again api.Office, e api.Errno) {
	t.Helper()
	less := again
	less.Letters, less.Log = less.Letters[:len(o.Letters)], less.Log[:len(o.Log)]
	if e != api.OK || !same(less, o) || len(again.Letters) != len(o.Letters)+2 {
		t.Fatal(e, shown(o), shown(again))
	}
	for _, r := range o.Records {
		is, minutes, why, e := desk.Tell(o, r.Id)
		is2, minutes2, why2, e2 := desk.Tell(again, r.Id)
		if is != is2 || minutes != minutes2 || !slices.Equal(why, why2) || e != e2 || holds(o, r.Id) != holds(again, r.Id) {
			t.Fatal(r.Id, shown(o), shown(again))
		}
	}
	for range 5 {
		d := aimed(g, o)
		_, said, e := desk.Do(o, d)
		_, said2, e2 := desk.Do(again, d)
		if e2 != api.ErrFull && (said != said2 || e != e2) {
			t.Fatal(d, said, e, said2, e2)
		}
	}
}

// P11.11: what is refused is refused for a reason that is so.
func TestReasonsAreSo(t *testing.T) {
	g := rand.New(rand.NewSource(39))
	count := map[string]int{}
	for range 1500 {
		o := someOffice(g)
		for range 12 {
			d := aimed(g, o)
			next, said, e := desk.Do(o, d)
			if e == api.OK {
				o = next
			}
			if e != api.ErrRefused {
				continue
			}
			count[d.Word+" "+deed(said).Word]++
			expectReason(t, g, o, d, deed(said))
		}
	}
	for _, kind := range []string{"note twist", "print stops", "batch broken", "grant broken", "grant lacks"} {
		if count[kind] < 50 {
			t.Error("too few", kind, count)
		}
		delete(count, kind)
	}
	if len(count) > 0 {
		t.Error("other reasons", count)
	}
}

// expectReason checks one of them.
func expectReason(t *testing.T, g *rand.Rand, o api.Office, d, why api.Deed) {
	t.Helper()
	var isSo bool
	switch why.Word {
	case "twist":
		// The tests contradict each other: with this note more no second is left, and with those before some one is.
		x := o.Specimens[d.Nums[0]].Test
		before := len(seconds(x, d.Nums[2])) > 0 || agrees(x, d.Nums[2], x.End+1)
		x.Notes = append(slices.Clone(x.Notes), api.Note{At: d.Nums[1], Kind: uint8(d.Nums[2]), Value: d.Nums[3], Off: span(d.Nums[4], d.Nums[5])})
		isSo = before && len(seconds(x, d.Nums[2])) == 0 && !agrees(x, d.Nums[2], x.End+1) && len(why.Nums) == 0
	case "stops":
		isSo = areStops(o.Specimens[d.Nums[0]].Test, d.Nums[1], why.Nums)
	case "broken":
		needs := d.Nums[1:]
		if d.Word == "grant" {
			needs = d.Nums[9:]
		}
		at := slices.Index(needs, why.Nums[0])
		isSo = len(why.Nums) == 1 && at >= 0 && !holds(o, needs[at])
		for _, need := range needs[:max(at, 0)] {
			isSo = isSo && holds(o, need)
		}
	case "lacks":
		w := wish(uint8(d.Nums[1]), d.Nums[2], d.Nums[3:9]...)
		isSo = len(why.Nums) == 1 && lacks(o, w) == why.Nums[0]
		for _, need := range d.Nums[9:] {
			isSo = isSo && holds(o, need)
		}
	}
	if !isSo {
		t.Fatal(d, why, shown(o))
	}
}

// areStops tells whether just these may keep a test from five minutes.
func areStops(x api.Test, letter int, stops []int) bool {
	var all []int
	for criterion := 1; criterion <= 2*letter; criterion++ {
		if times := seconds(x, criterion); len(times) > 0 && times[0]-x.Clock.Hi <= 300 {
			all = append(all, criterion)
		}
	}
	if x.End-x.Clock.Hi < 300 {
		all = append(all, api.StopEnd)
	}
	if until, _ := furnace.Counts(x.Run, x.Rules); until < 5 {
		all = append(all, api.StopFurnace)
	}
	return len(all) > 0 && slices.Equal(all, stops)
}
