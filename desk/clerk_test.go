package desk_test

import (
	"fmt"
	"math/rand"
	"slices"
	"testing"

	"cottonpad/api"
	"cottonpad/class"
	"cottonpad/desk"
	"cottonpad/extend"
	"cottonpad/trust"
)

// withdrawn tells whether a record is withdrawn on Day, by the words of layer 8.
func withdrawn(o api.Office, id int) bool {
	var about []api.Letter
	for _, l := range o.Letters {
		if l.About == id && l.Day <= o.Day {
			about = append(about, l)
		}
	}
	slices.SortFunc(about, func(a, b api.Letter) int {
		if a.Day != b.Day {
			return a.Day - b.Day
		}
		return a.Id - b.Id
	})
	return len(about) > 0 && about[len(about)-1].Kind == api.LetterWithdraw
}

// holds tells whether a record holds on Day, by the words of layer 8.
func holds(o api.Office, id int) bool {
	if withdrawn(o, id) {
		return false
	}
	for _, r := range o.Records {
		if r.Id != id {
			continue
		}
		for _, way := range r.Ways {
			if !slices.ContainsFunc(way, func(need int) bool { return !holds(o, need) }) {
				return true
			}
		}
		return len(r.Ways) == 0
	}
	return false
}

// proves tells whether a specimen proves a clause of a wish, by the words of layer 3.
func proves(c api.Clause, s api.Specimen, w api.Wish) bool {
	if classOf(s.Test, w.Letter) < w.Minutes+c.Over {
		return false
	}
	asked, tested := w.Props[c.Property], s.Props[c.Property]
	switch c.Kind {
	case api.ClauseSame:
		return asked == tested
	case api.ClauseUpTo:
		return asked <= tested+c.By
	}
	return asked >= tested-c.By
}

// lacks is the first clause of a wish that no specimen proves that is shut, -1 if there is none.
func lacks(o api.Office, w api.Wish) int {
	return slices.IndexFunc(o.Clauses, func(c api.Clause) bool {
		return !slices.ContainsFunc(o.Shut, func(i int) bool { return proves(c, o.Specimens[i], w) })
	})
}

// isWish tells whether a wish is valid, whose letter is any number.
func isWish(letter, minutes int, props []int) bool {
	return letter >= 1 && letter <= 3 && minutes >= 1 && minutes <= 60 && !slices.ContainsFunc(props, func(n int) bool { return n < 0 || n > 100000 })
}

// clerk does a deed by the words of the chapter's table, in a valid office.
func clerk(o api.Office, d api.Deed) (next api.Office, said string, e api.Errno) {
	counts, isWord := tasks()[d.Word]
	if !isWord || len(d.Nums) < counts.Lo || len(d.Nums) > counts.Hi {
		return api.Office{}, "", api.ErrDeed
	}
	if slices.ContainsFunc(d.Nums, func(n int) bool { return n < -1e9 || n > 1e9 }) {
		return api.Office{}, "", api.ErrArg
	}
	if len(o.Log) >= 150 {
		return api.Office{}, "", api.ErrFull
	}
	next = copied(o)
	switch d.Word {
	case "day":
		if d.Nums[0] < o.Day || d.Nums[0] > 100000 {
			e = api.ErrBad
		}
		next.Day = d.Nums[0]
	case "row", "note", "shut", "print":
		said, e = clerkOfTests(&next, d.Word, d.Nums)
	case "factory", "drawing", "batch", "grant":
		said, e = clerkOfRecords(&next, d.Word, d.Nums)
	default:
		e = clerkOfLetters(&next, d.Word, d.Nums[0])
	}
	if e != api.OK {
		return api.Office{}, said, e
	}
	next.Log = append(next.Log, d)
	return copied(next), "", api.OK
}

// clerkOfTests does a deed of a specimen.
func clerkOfTests(o *api.Office, word string, n []int) (said string, e api.Errno) {
	s := n[0]
	if s < 0 || s >= len(o.Specimens) {
		return "", api.ErrNone
	}
	isShut := slices.Contains(o.Shut, s)
	x := &o.Specimens[s].Test
	if word == "print" {
		return clerkOfPrints(o, s, n[1], isShut)
	}
	if isShut {
		return "", api.ErrBad
	}
	switch word {
	case "row":
		x.Run.Rows = append(x.Run.Rows, api.Row{Press: n[1], Degrees: n[2:]})
		x.End = 60 * len(x.Run.Rows)
	case "note":
		if n[2] < 0 || n[2] > 255 {
			return "", api.ErrBad
		}
		x.Notes = append(x.Notes, api.Note{At: n[1], Kind: uint8(n[2]), Value: n[3], Off: span(n[4], n[5])})
	case "shut":
		o.Shut = append(o.Shut, s)
		slices.Sort(o.Shut)
	}
	switch class.Check(*x) {
	case api.OK:
		return "", api.OK
	case api.ErrTwist:
		return "twist", api.ErrRefused
	}
	return "", api.ErrBad
}

// clerkOfPrints prints a class.
func clerkOfPrints(o *api.Office, s, letter int, isShut bool) (said string, e api.Errno) {
	if letter < 1 || letter > 3 || !isShut {
		return "", api.ErrBad
	}
	if len(o.Prints) == 10 {
		return "", api.ErrFull
	}
	minutes := classOf(o.Specimens[s].Test, uint8(letter))
	if minutes == 0 {
		said = "stops"
		stops, _ := class.Stops(o.Specimens[s].Test, uint8(letter))
		for _, stop := range stops {
			said += fmt.Sprintf(" %d", stop)
		}
		return said, api.ErrRefused
	}
	o.Prints = append(o.Prints, api.Print{Specimen: s, Letter: uint8(letter), Minutes: minutes, Day: o.Day})
	return "", api.OK
}

// clerkOfRecords does a deed that adds a record.
func clerkOfRecords(o *api.Office, word string, n []int) (said string, e api.Errno) {
	if len(o.Records) == 12 {
		return "", api.ErrFull
	}
	r := factory(n[0])
	var needs []int
	switch word {
	case "drawing":
		r = drawing(n[0])
	case "batch":
		needs = n[1:]
		r = batch(n[0], needs)
	case "grant":
		needs = n[9:]
		r = certificate(n[0], needs)
	}
	before := copied(*o)
	o.Records = append(o.Records, r)
	slices.SortFunc(o.Records, func(a, b api.Record) int { return a.Id - b.Id })
	if trust.Check(o.Records, nil) != api.OK || word == "grant" && !isWish(n[1], n[2], n[3:9]) {
		return "", api.ErrBad
	}
	for _, need := range needs {
		if !holds(before, need) {
			return fmt.Sprintf("broken %d", need), api.ErrRefused
		}
	}
	if word == "grant" {
		g := api.Grant{Id: n[0], Wish: wish(uint8(n[1]), n[2], n[3:9]...)}
		if lack := lacks(before, g.Wish); lack >= 0 {
			return fmt.Sprintf("lacks %d", lack), api.ErrRefused
		}
		o.Grants = append(o.Grants, g)
		slices.SortFunc(o.Grants, func(a, b api.Grant) int { return a.Id - b.Id })
	}
	return "", api.OK
}

// clerkOfLetters does a deed that adds a letter.
func clerkOfLetters(o *api.Office, word string, id int) api.Errno {
	if !slices.ContainsFunc(o.Records, func(r api.Record) bool { return r.Id == id }) {
		return api.ErrNone
	}
	l := api.Letter{Day: o.Day, About: id, Kind: api.LetterWithdraw}
	if word == "restore" {
		l.Kind = api.LetterRestore
	}
	for _, other := range o.Letters {
		l.Id = other.Id + 1
	}
	if len(o.Letters) == 20 || l.Id > 9999 {
		return api.ErrFull
	}
	if withdrawn(*o, id) != (word == "restore") {
		return api.ErrBad
	}
	o.Letters = append(o.Letters, l)
	return api.OK
}

// isValid tells whether an office is valid, by the words of the chapter.
func isValid(o api.Office) bool {
	if o.Day < 0 || o.Day > 100000 || len(o.Prints) > 10 || len(o.Log) > 150 {
		return false
	}
	if extend.Check(o.Clauses, o.Specimens, wish(1, 1, 0, 0, 0, 0, 0, 0)) != api.OK || trust.Check(o.Records, o.Letters) != api.OK {
		return false
	}
	for i, s := range o.Shut {
		if s < 0 || s >= len(o.Specimens) || i > 0 && o.Shut[i-1] >= s {
			return false
		}
	}
	for i, p := range o.Prints {
		if p.Day > o.Day || i > 0 && o.Prints[i-1].Day > p.Day || !slices.Contains(o.Shut, p.Specimen) || p.Letter < 1 || p.Letter > 3 {
			return false
		}
		if p.Minutes <= 0 || p.Minutes != classOf(o.Specimens[p.Specimen].Test, p.Letter) {
			return false
		}
	}
	var certificates, granted []int
	for _, r := range o.Records {
		if r.Kind == api.RecCertificate {
			certificates = append(certificates, r.Id)
		}
	}
	for _, g := range o.Grants {
		granted = append(granted, g.Id)
		if len(g.Wish.Props) != 6 || !isWish(int(g.Wish.Letter), g.Wish.Minutes, g.Wish.Props) || lacks(o, g.Wish) >= 0 {
			return false
		}
	}
	return slices.Equal(certificates, granted) &&
		!slices.ContainsFunc(o.Letters, func(l api.Letter) bool { return l.Day > o.Day }) &&
		!slices.ContainsFunc(o.Log, func(d api.Deed) bool {
			counts, isWord := tasks()[d.Word]
			return !isWord || len(d.Nums) < counts.Lo || len(d.Nums) > counts.Hi || slices.ContainsFunc(d.Nums, func(n int) bool { return n < -1e9 || n > 1e9 })
		})
}

// someTest is a test of a few minutes in a furnace that may leave its limits, with notes that may show failures.
func someTest(g *rand.Rand) api.Test {
	x := lasting(between(g, 1, 16))
	x.Id = g.Intn(10000)
	if g.Intn(3) == 0 {
		x.Notes = x.Notes[:g.Intn(7)]
	}
	if g.Intn(3) == 0 {
		x.Clock = someSpan(g, -30, 30)
	}
	if g.Intn(3) == 0 {
		x.Run.Couples[0].Error, x.Run.Couples[0].Lag = someSpan(g, -3, 3), someSpan(g, 0, 3)
		x.Run.Rows[g.Intn(len(x.Run.Rows))].Degrees[0] += between(g, -7, 7)
	}
	if g.Intn(3) == 0 {
		x.Run.Couples = append(x.Run.Couples, api.Couple{Id: 7, Error: someSpan(g, -2, 2), Lag: someSpan(g, 0, 2), Breaks: g.Intn(2) * g.Intn(20)})
		for i := range x.Run.Rows {
			x.Run.Rows[i].Degrees = append(x.Run.Rows[i].Degrees, between(g, 98, 102))
		}
	}
	if g.Intn(3) == 0 {
		x.Rules.Steps = []api.Step{{From: between(g, 1, 5), Part: between(g, 10, 60)}}
	}
	if g.Intn(2) == 0 {
		at := between(g, 0, x.End)
		early := api.Note{At: at, Kind: uint8(between(g, 1, 6)), Value: g.Intn(200), Off: someSpan(g, -3, 3)}
		x.Notes = slices.Insert(x.Notes, 0, early)
	}
	if class.Check(x) != api.OK {
		return someTest(g)
	}
	return x
}

// someWish is one that some specimens that are shut cover now and then.
func someWish(g *rand.Rand) api.Wish {
	w := wish(uint8(between(g, 1, 3)), someOf(g, list(1, 3, 5, 5, 7, 10)))
	for range 6 {
		w.Props = append(w.Props, g.Intn(4))
	}
	return w
}

func someClauses(g *rand.Rand) []api.Clause {
	var all []api.Clause
	for range between(g, 1, 3) {
		c := api.Clause{Property: g.Intn(3), Kind: uint8(between(g, 1, 3)), Over: g.Intn(2) * g.Intn(8)}
		if c.Kind != api.ClauseSame {
			c.By = g.Intn(4)
		}
		all = append(all, c)
	}
	return all
}

// someLetters are letters about some Ids, on days up to one.
func someLetters(g *rand.Rand, count, day int, ids []int) []api.Letter {
	var all []api.Letter
	id := g.Intn(3)
	for range count {
		all = append(all, api.Letter{Id: id, Day: g.Intn(day + 1), About: someOf(g, ids), Kind: uint8(between(g, 1, 2))})
		id += between(g, 1, 4)
	}
	return all
}

// addRecords adds records, and what was granted, to an office: certificates just of what is covered.
func addRecords(g *rand.Rand, o *api.Office) {
	var ids []int
	for range g.Intn(10) {
		id := len(ids) * 10
		if len(ids) > 0 {
			id = ids[len(ids)-1] + between(g, 2, 9)
		}
		r, w := api.Record{Id: id, Kind: uint8(between(g, 1, 4))}, someWish(g)
		if r.Kind == api.RecCertificate && lacks(*o, w) >= 0 {
			r.Kind = api.RecBatch
		}
		if len(ids) == 0 && r.Kind > 2 {
			r.Kind -= 2
		}
		for range between(g, 1, 2) {
			if r.Kind <= 2 {
				break
			}
			way := slices.Clone(ids)
			for len(way) > between(g, 1, 3) {
				at := g.Intn(len(way))
				way = slices.Delete(way, at, at+1)
			}
			r.Ways = append(r.Ways, way)
		}
		if r.Kind == api.RecCertificate {
			o.Grants = append(o.Grants, api.Grant{Id: id, Wish: w})
		}
		ids = append(ids, id)
		o.Records = append(o.Records, r)
	}
	if len(ids) > 0 {
		o.Letters = someLetters(g, g.Intn(7), o.Day, ids)
	}
}

// someOffice is any valid office.
func someOffice(g *rand.Rand) api.Office {
	o := api.Office{Day: g.Intn(100), Clauses: someClauses(g)}
	for i := range g.Intn(4) {
		s := api.Specimen{Test: someTest(g)}
		for range 6 {
			s.Props = append(s.Props, g.Intn(4))
		}
		o.Specimens = append(o.Specimens, s)
		if g.Intn(2) == 0 {
			o.Shut = append(o.Shut, i)
		}
	}
	day := 0
	for range g.Intn(4) {
		letter := uint8(between(g, 1, 3))
		if len(o.Shut) == 0 {
			break
		}
		s := someOf(g, o.Shut)
		day = between(g, day, o.Day)
		if minutes := classOf(o.Specimens[s].Test, letter); minutes > 0 {
			o.Prints = append(o.Prints, api.Print{Specimen: s, Letter: letter, Minutes: minutes, Day: day})
		}
	}
	addRecords(g, &o)
	o.Log = someLog(g, g.Intn(3))
	return o
}

// aimed is a deed that may be done in an office, and often is.
func aimed(g *rand.Rand, o api.Office) api.Deed {
	s, id := g.Intn(len(o.Specimens)+1), someOf(g, list(0, 3, 5, 8, 11, 17, 24, 50, 99))
	if len(o.Records) > 0 && g.Intn(2) == 0 {
		id = someOf(g, o.Records).Id
	}
	var needs []int
	for _, r := range o.Records {
		if g.Intn(len(o.Records)) < 2 {
			needs = append(needs, r.Id)
		}
	}
	d := api.Deed{Word: someDeed(g).Word}
	switch d.Word {
	case "day":
		d.Nums = list(o.Day + between(g, -1, 3))
	case "row":
		d.Nums = list(s, between(g, -101, 101))
		couples := 1
		if s < len(o.Specimens) {
			couples = max(1, len(o.Specimens[s].Test.Run.Couples)-g.Intn(8)/7)
		}
		for range couples {
			d.Nums = append(d.Nums, between(g, 95, 105))
		}
	case "note":
		at := between(g, 0, 900)
		if s < len(o.Specimens) {
			at = o.Specimens[s].Test.End
		}
		d.Nums = list(s, at, between(g, 1, 6)+g.Intn(8)/7*256, between(g, 0, 200), between(g, -3, 0), between(g, -1, 3))
	case "shut":
		d.Nums = list(s)
	case "print":
		d.Nums = list(s, between(g, 0, 3))
	case "batch":
		d.Nums = append(list(id+g.Intn(100)), needs...)
	case "grant":
		w := someWish(g)
		if len(o.Grants) > 0 && g.Intn(2) == 0 {
			w = someOf(g, o.Grants).Wish
		}
		if len(needs) == 0 && len(o.Records) > 0 {
			needs = list(o.Records[0].Id)
		}
		d.Nums = append(append(list(id+g.Intn(100), int(w.Letter), w.Minutes), w.Props...), needs...)
	default:
		d.Nums = list(id)
	}
	return d
}

// P11.1, P11.6, P11.11 and N11: any deeds in any offices, by the words of the chapter.
func TestAnyDeeds(t *testing.T) {
	g := rand.New(rand.NewSource(20))
	count := map[string]int{}
	for range 2500 {
		o := someOffice(g)
		if !isValid(o) {
			t.Fatal("not valid", shown(o))
		}
		for range 12 {
			d := aimed(g, o)
			if g.Intn(20) == 0 {
				d = someDeed(g)
			}
			next, said, e := desk.Do(o, d)
			wanted, words, want := clerk(o, d)
			if !same(next, wanted) || said != words || e != want {
				t.Fatal(d, "\n", shown(o), "\n", shown(next), said, e, "\n", shown(wanted), words, want)
			}
			count[fmt.Sprint(d.Word, " ", int(e))]++
			if e == api.OK {
				o = next
			}
		}
	}
	for word := range tasks() {
		if count[word+" 0"] < 100 {
			t.Error("too few", word, count)
		}
	}
	for _, kind := range []string{"day 8", "row 6", "row 8", "note 6", "note 8", "note 112", "shut 6", "shut 8", "print 6", "print 8", "print 112", "factory 8", "batch 8", "batch 112", "grant 8", "grant 112", "withdraw 6", "withdraw 8", "restore 6", "restore 8"} {
		if count[kind] < 50 {
			t.Error("too few", kind, count)
		}
	}
}

// P11.1 and R6: any changes of valid offices, by the words of the chapter.
func TestAnyOffices(t *testing.T) {
	g := rand.New(rand.NewSource(21))
	var count [2]int
	for range 12000 {
		o := someOffice(g)
		if g.Intn(3) == 0 {
			o = copied(busy())
		}
		changeSome(g, &o)
		want := api.ErrOffice
		if isValid(o) {
			want = api.OK
			count[0]++
		} else {
			count[1]++
		}
		if e := desk.Check(o); e != want {
			t.Fatal(e, want, shown(o))
		}
	}
	if min(count[0], count[1]) < 1000 {
		t.Error("too few of one kind", count)
	}
}

// changeSome changes something of an office.
func changeSome(g *rand.Rand, o *api.Office) {
	n := someOf(g, list(-1, 0, 1, 2, 3, 5, 10, 30, 40, 50, 60, 10000, 100001))
	numbers := []*int{&o.Day, &o.Clauses[0].By, &o.Clauses[0].Over, &o.Clauses[0].Property}
	bytes := []*uint8{&o.Clauses[0].Kind}
	for i := range o.Prints {
		p := &o.Prints[i]
		bytes = append(bytes, &p.Letter)
		numbers = append(numbers, &p.Minutes, &p.Specimen)
		if n >= 0 {
			numbers = append(numbers, &p.Day, &p.Day)
		}
	}
	for i := range o.Records {
		bytes, numbers = append(bytes, &o.Records[i].Kind), append(numbers, &o.Records[i].Id)
	}
	for i := range o.Letters {
		numbers = append(numbers, &o.Letters[i].Day, &o.Letters[i].About)
	}
	for i := range o.Grants {
		w := &o.Grants[i].Wish
		bytes, numbers = append(bytes, &w.Letter), append(numbers, &o.Grants[i].Id, &w.Minutes, &w.Props[0], &w.Props[1], &w.Props[2], &w.Props[4])
	}
	for i := range o.Specimens {
		numbers = append(numbers, &o.Specimens[i].Props[g.Intn(6)], &o.Specimens[i].Test.End)
	}
	for i := range o.Shut {
		numbers = append(numbers, &o.Shut[i])
	}
	switch g.Intn(9) {
	case 0:
		*someOf(g, bytes) = uint8(g.Intn(6))
	case 1:
		o.Shut = o.Shut[:g.Intn(len(o.Shut)+1)]
	case 2:
		o.Grants = o.Grants[:g.Intn(len(o.Grants)+1)]
	case 3:
		o.Prints = slices.Concat(o.Prints, o.Prints)
	default:
		*someOf(g, numbers) = n
	}
}
