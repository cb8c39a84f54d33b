package desk

import (
	"slices"

	"cottonpad/api"
	"cottonpad/class"
	"cottonpad/extend"
)

// minute is how many seconds it has.
const minute = 60

// grantOwn is how many numbers of a grant are before its needs: its Id, the letter, the minutes, and the props.
const grantOwn = 3 + api.MaxProperties

// task is what a word asks: how many numbers, and what is done with them.
type task struct {
	counts api.Span
	do     func(w *work, nums []int)
}

// tasks returns what all words ask.
func tasks() map[string]task {
	return map[string]task{
		"day":      {just(1), (*work).setDay},
		"row":      {api.Span{Lo: 3, Hi: 2 + api.MaxCouples}, (*work).addRow},
		"note":     {just(6), (*work).addNote},
		"shut":     {just(1), (*work).shut},
		"print":    {just(2), (*work).printClass},
		"factory":  {just(1), (*work).addFactory},
		"drawing":  {just(1), (*work).addDrawing},
		"batch":    {api.Span{Lo: 1 + 1, Hi: 1 + api.MaxNeeds}, (*work).addBatch},
		"grant":    {api.Span{Lo: grantOwn + 1, Hi: grantOwn + api.MaxNeeds}, (*work).grant},
		"withdraw": {just(1), (*work).withdraw},
		"restore":  {just(1), (*work).restore},
	}
}

// just is one number alone.
func just(n int) api.Span { return api.Span{Lo: n, Hi: n} }

// greatestByte is the greatest number that may be a kind, or a letter.
const greatestByte = 255

// kindOf returns a number as a kind, or a letter; 0, which is none of either, if it is too great or too small for one.
func kindOf(n int) uint8 {
	if !within(upTo(greatestByte), n) {
		return 0
	}
	return uint8(n)
}

func (w *work) setDay(n []int) {
	must(within(api.Span{Lo: w.Day, Hi: api.MaxDay}, n[0]), api.ErrBad)
	w.Day = n[0]
}

func (w *work) addRow(n []int) {
	t := w.openTestOf(n[0])
	row := api.Row{Press: n[1], Degrees: slices.Clone(n[2:])}
	t.Run.Rows = append(t.Run.Rows, row)
	t.End = minute * len(t.Run.Rows)
	must(class.Check(t) == api.OK, api.ErrBad)
	w.Specimens[n[0]].Test = t
}

func (w *work) addNote(n []int) {
	t := w.openTestOf(n[0])
	note := api.Note{At: n[1], Kind: kindOf(n[2]), Value: n[3], Off: api.Span{Lo: n[4], Hi: n[5]}}
	t.Notes = append(t.Notes, note)
	e := class.Check(t)
	if e == api.ErrTwist {
		refuse("twist")
	}
	must(e == api.OK, api.ErrBad)
	w.Specimens[n[0]].Test = t
}

func (w *work) shut(n []int) {
	w.openTestOf(n[0])
	at := place(w.Shut, n[0], func(i int) int { return i })
	w.Shut = slices.Insert(w.Shut, at, n[0])
}

func (w *work) printClass(n []int) {
	t, letter := w.testOf(n[0]), kindOf(n[1])
	stops, e := class.Stops(t, letter)
	must(e == api.OK && w.isShut(n[0]), api.ErrBad)
	must(len(w.Prints) < api.MaxPrints, api.ErrFull)
	minutes := classOf(t, letter)
	if minutes == 0 {
		refuse("stops", numbersIn(stops)...)
	}
	w.Prints = append(w.Prints, api.Print{Specimen: n[0], Letter: letter, Minutes: minutes, Day: w.Day})
}

// numbersIn returns kinds as numbers.
func numbersIn(kinds []uint8) []int {
	var numbers []int
	for _, kind := range kinds {
		numbers = append(numbers, int(kind))
	}
	return numbers
}

func (w *work) addFactory(n []int) {
	w.Records = w.recordsWith(api.Record{Id: n[0], Kind: api.RecFactory})
}

func (w *work) addDrawing(n []int) {
	w.Records = w.recordsWith(api.Record{Id: n[0], Kind: api.RecDrawing})
}

// hanging returns a record with one way.
func hanging(id int, kind uint8, needs []int) api.Record {
	return api.Record{Id: id, Kind: kind, Ways: [][]int{slices.Clone(needs)}}
}

func (w *work) addBatch(n []int) {
	records := w.recordsWith(hanging(n[0], api.RecBatch, n[1:]))
	w.mustHold(n[1:])
	w.Records = records
}

func (w *work) grant(n []int) {
	needs := n[grantOwn:]
	records := w.recordsWith(hanging(n[0], api.RecCertificate, needs))
	props := [api.MaxProperties]int(n[grantOwn-api.MaxProperties:])
	g := api.Grant{Id: n[0], Wish: api.Wish{Letter: kindOf(n[1]), Minutes: n[2], Props: props[:]}}
	must(extend.Check(w.Clauses, w.Specimens, g.Wish) == api.OK, api.ErrBad)
	w.mustHold(needs)
	w.mustCover(g.Wish)
	at := place(w.Grants, g.Id, func(g api.Grant) int { return g.Id })
	w.Records, w.Grants = records, slices.Insert(w.Grants, at, g)
}

func (w *work) withdraw(n []int) { w.send(n[0], api.LetterWithdraw) }

func (w *work) restore(n []int) { w.send(n[0], api.LetterRestore) }

// send adds a letter about a record.
func (w *work) send(about int, kind uint8) {
	isIt := func(r api.Record) bool { return r.Id == about }
	must(slices.ContainsFunc(w.Records, isIt), api.ErrNone)
	id := 0
	if count := len(w.Letters); count > 0 {
		id = w.Letters[count-1].Id + 1
	}
	must(len(w.Letters) < api.MaxLetters && id <= api.MaxId, api.ErrFull)
	must(w.isWithdrawn(about) == (kind == api.LetterRestore), api.ErrBad)
	w.Letters = append(w.Letters, api.Letter{Id: id, Day: w.Day, About: about, Kind: kind})
}
