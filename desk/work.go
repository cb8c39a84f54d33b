package desk

import (
	"slices"
	"strconv"

	"cottonpad/api"
	"cottonpad/extend"
	"cottonpad/trust"
)

// work is a valid office at work, in memory of its own.
type work struct{ api.Office }

func atWork(o api.Office) *work { return &work{copyOfOffice(o)} }

// refusal is why a deed is refused: a panic with it stops the deed, as one with an error does.
type refusal string

// refuse stops a deed for a reason.
func refuse(word string, numbers ...int) { panic(refusal(phrase(word, numbers...))) }

// must stops a deed by an error, unless something is so.
func must(isSo bool, e api.Errno) {
	if !isSo {
		panic(e)
	}
}

// phrase returns a word and numbers, with a space before each one.
func phrase(word string, numbers ...int) string {
	for _, n := range numbers {
		word += " " + strconv.Itoa(n)
	}
	return word
}

// do does a deed, or returns why it is not done: then nothing is changed.
func (w *work) do(d api.Deed) (said string, e api.Errno) {
	defer func() {
		switch why := recover().(type) {
		case api.Errno:
			e = why
		case refusal:
			said, e = string(why), api.ErrRefused
		}
	}()
	must(isPhrase(d), api.ErrDeed)
	must(areTold(d.Nums), api.ErrArg)
	must(len(w.Log) < api.MaxDeeds, api.ErrFull)
	d = copyOfDeed(d)
	tasks()[d.Word].do(w, d.Nums)
	w.Log = append(w.Log, d)
	return "", api.OK
}

// place returns the place of a number in a list, behind all that are not greater.
func place[T any](list []T, n int, number func(thing T) int) int {
	at := slices.IndexFunc(list, func(thing T) bool { return number(thing) > n })
	if at < 0 {
		return len(list)
	}
	return at
}

func (w *work) isShut(specimen int) bool { return slices.Contains(w.Shut, specimen) }

// testOf returns the test of a specimen, which there must be.
func (w *work) testOf(specimen int) api.Test {
	must(within(upTo(len(w.Specimens)-1), specimen), api.ErrNone)
	return w.Specimens[specimen].Test
}

// openTestOf returns the test of a specimen, which must not be shut.
func (w *work) openTestOf(specimen int) api.Test {
	t := w.testOf(specimen)
	must(!w.isShut(specimen), api.ErrBad)
	return t
}

// shutSpecimens returns all specimens that are shut.
func (w *work) shutSpecimens() []api.Specimen {
	var list []api.Specimen
	for i := range len(w.Specimens) {
		if w.isShut(i) {
			list = append(list, w.Specimens[i])
		}
	}
	return list
}

// holds returns whether a record holds on Day.
func (w *work) holds(id int) bool {
	held, _ := trust.Holds(w.Records, w.Letters, w.Day)
	return slices.Contains(held, id)
}

// isWithdrawn returns whether a record is withdrawn on Day, whatever it hangs on: then it would not hold as a factory, which hangs on nothing.
func (w *work) isWithdrawn(id int) bool {
	others := func(l api.Letter) bool { return l.About != id }
	letters := slices.DeleteFunc(slices.Clone(w.Letters), others)
	held, _ := trust.Holds([]api.Record{{Id: id, Kind: api.RecFactory}}, letters, w.Day)
	return len(held) == 0
}

// recordsWith returns the records with one more, at its place.
func (w *work) recordsWith(r api.Record) []api.Record {
	must(len(w.Records) < api.MaxRecords, api.ErrFull)
	at := place(w.Records, r.Id, func(r api.Record) int { return r.Id })
	records := slices.Insert(slices.Clone(w.Records), at, r)
	must(trust.Check(records, w.Letters) == api.OK, api.ErrBad)
	return records
}

// mustHold refuses what hangs on a record that is broken.
func (w *work) mustHold(needs []int) {
	at := slices.IndexFunc(needs, func(id int) bool { return !w.holds(id) })
	if at >= 0 {
		refuse("broken", needs[at])
	}
}

// mustCover refuses a wish of which a clause is not proved by what is shut.
func (w *work) mustCover(wish api.Wish) {
	lack, _ := extend.Lacks(w.Clauses, w.Specimens, wish, w.Shut)
	if lack != noClause {
		refuse("lacks", lack)
	}
}
