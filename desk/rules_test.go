package desk_test

import (
	"math"
	"math/rand"
	"reflect"
	"slices"
	"testing"

	"cottonpad/api"
	"cottonpad/desk"
)

// asked is all that the functions of the package are asked with.
type asked struct {
	office      api.Office
	deed        api.Deed
	log         []api.Deed
	certificate int
	text        string
}

// answers is all that they return.
type answers struct {
	done, replayed api.Office
	said, told     string
	at             int
	holds          bool
	minutes        int
	why            []int
	text           string
	log            []api.Deed
	line           int
	errors         [6]api.Errno
}

func ask(q asked) answers {
	var a answers
	a.errors[0] = desk.Check(q.office)
	a.done, a.said, a.errors[1] = desk.Do(q.office, q.deed)
	a.replayed, a.at, a.told, a.errors[2] = desk.Replay(q.office, q.log)
	a.holds, a.minutes, a.why, a.errors[3] = desk.Tell(q.office, q.certificate)
	a.text, a.errors[4] = desk.Write(q.log)
	a.log, a.line, a.errors[5] = desk.Read(q.text)
	return a
}

// someAsked are arguments that are right, or nearly so.
func someAsked(g *rand.Rand) asked {
	o := someOffice(g)
	if g.Intn(2) == 0 {
		o = copied(busy())
	}
	log := worked(g, o, 6).Log[len(o.Log):]
	if g.Intn(3) == 0 {
		log = append(log, aimed(g, o))
	}
	q := asked{office: o, deed: aimed(g, o), log: log, certificate: someOf(g, list(-1, 40, 60)), text: textOf(log)}
	if len(o.Grants) > 0 {
		q.certificate = someOf(g, o.Grants).Id
	}
	return q
}

// zeroBesideErrors is R2 for all answers, and that what has a meaning beside an error has it just there.
func (a answers) zeroBesideErrors() bool {
	isNone := func(x any) bool { return reflect.ValueOf(x).IsZero() }
	e := a.errors
	return (e[1] == api.OK || same(a.done, api.Office{})) &&
		(a.said != "") == (e[1] == api.ErrRefused) &&
		(e[2] == api.OK || same(a.replayed, api.Office{})) &&
		(a.told != "") == (e[2] == api.ErrRefused) &&
		(a.at == 0 || e[2] != api.OK && e[2] != api.ErrOffice) &&
		(e[3] == api.OK || isNone(a.holds) && isNone(a.minutes) && len(a.why) == 0) &&
		(e[4] == api.OK || a.text == "") &&
		(e[5] == api.OK || len(a.log) == 0) &&
		(a.line > 0) == (e[5] == api.ErrLogLine || e[5] == api.ErrLogSeal)
}

// piece is the memory of a list, to its capacity.
type piece struct{ from, to uintptr }

// pieces are those of all lists of a value; memory that it has twice is there twice.
func pieces(v reflect.Value) []piece {
	var all []piece
	switch v.Kind() {
	case reflect.Slice:
		if v.Cap() > 0 {
			from := v.Pointer()
			all = append(all, piece{from, from + uintptr(v.Cap())*v.Type().Elem().Size()})
		}
		for i := range v.Len() {
			all = append(all, pieces(v.Index(i))...)
		}
	case reflect.Array:
		for i := range v.Len() {
			all = append(all, pieces(v.Index(i))...)
		}
	case reflect.Struct:
		for i := range v.NumField() {
			all = append(all, pieces(v.Field(i))...)
		}
	}
	return all
}

// apart tells whether no memory of some values is that of another one, or of another list of the same one.
func apart(values ...any) bool {
	var all []piece
	for _, x := range values {
		all = append(all, pieces(reflect.ValueOf(x))...)
	}
	slices.SortFunc(all, func(a, b piece) int { return int(int64(a.from) - int64(b.from)) })
	for i := 1; i < len(all); i++ {
		if all[i].from < all[i-1].to {
			return false
		}
	}
	return true
}

// spare is a value whose lists have room behind them, in memory of its own, in which marks are that must stay.
func spare(v reflect.Value) reflect.Value {
	out := reflect.New(v.Type()).Elem()
	out.Set(v)
	switch v.Kind() {
	case reflect.Slice:
		if v.IsNil() {
			break
		}
		room := reflect.MakeSlice(v.Type(), v.Len()+2, v.Len()+2)
		for i := range v.Len() {
			room.Index(i).Set(spare(v.Index(i)))
		}
		if v.Len() > 0 {
			room.Index(v.Len()).Set(spare(v.Index(0)))
		}
		out.Set(room.Slice(0, v.Len()))
	case reflect.Struct:
		for i := range v.NumField() {
			out.Field(i).Set(spare(v.Field(i)))
		}
	}
	return out
}

func spared[T any](x T) T { return spare(reflect.ValueOf(x)).Interface().(T) }

// whole is a text of all memory of a value, to the capacity of its lists.
func whole(v reflect.Value) string {
	switch v.Kind() {
	case reflect.Slice:
		s := "["
		for i := range v.Cap() {
			s += whole(v.Slice(0, v.Cap()).Index(i)) + " "
		}
		return s + "]"
	case reflect.Struct:
		s := "{"
		for i := range v.NumField() {
			s += whole(v.Field(i)) + " "
		}
		return s + "}"
	}
	return shown(v.Interface())
}

// R3: no argument is written to, nor what is behind it; no result shares memory with one, with another result, or within itself.
func TestMemory(t *testing.T) {
	g := rand.New(rand.NewSource(40))
	done := map[string]int{}
	for range 1500 {
		q := someAsked(g)
		q.office, q.deed, q.log = spared(q.office), spared(q.deed), spared(q.log)
		if !apart(q.office, q.deed, q.log) {
			t.Fatal("arguments share memory")
		}
		before := whole(reflect.ValueOf(q.office)) + whole(reflect.ValueOf(q.deed)) + whole(reflect.ValueOf(q.log))
		a := ask(q)
		if before != whole(reflect.ValueOf(q.office))+whole(reflect.ValueOf(q.deed))+whole(reflect.ValueOf(q.log)) {
			t.Fatal("an argument is written to", q.deed)
		}
		if !apart(q.office, q.deed, q.log, a.done, a.replayed, a.why, a.log) {
			t.Fatal("memory is shared", q.deed, q.log, pieces(reflect.ValueOf(a.done)))
		}
		if a.errors[1] == api.OK {
			done[q.deed.Word]++
		}
	}
	for word := range tasks() {
		if done[word] < 10 {
			t.Error("too few", word, done)
		}
	}
}

// overwrite writes to all memory of the lists of a value.
func overwrite(v reflect.Value) {
	switch v.Kind() {
	case reflect.Slice:
		for i := range v.Len() {
			overwrite(v.Index(i))
			v.Index(i).SetZero()
		}
	case reflect.Struct:
		for i := range v.NumField() {
			overwrite(v.Field(i))
		}
	}
}

// R3: no call remembers another one: what is done to its arguments and results afterwards changes nothing.
func TestNothingIsRemembered(t *testing.T) {
	g := rand.New(rand.NewSource(41))
	for range 300 {
		q := someAsked(g)
		again := q
		again.office, again.deed, again.log = spared(q.office), spared(q.deed), spared(q.log)
		a := ask(q)
		kept := shown(a)
		ask(someAsked(g))
		overwrite(reflect.ValueOf(q.office))
		overwrite(reflect.ValueOf(q.log))
		overwrite(reflect.ValueOf(q.deed.Nums))
		if shown(a) != kept {
			t.Fatal("a result is a part of an argument")
		}
		overwrite(reflect.ValueOf(a.done))
		overwrite(reflect.ValueOf(a.replayed))
		if b := shown(ask(again)); b != kept {
			t.Fatal(b, kept)
		}
	}
}

// emptied is a value in which each nil list is an empty one.
func emptied(v reflect.Value) {
	switch v.Kind() {
	case reflect.Slice:
		if v.IsNil() {
			v.Set(reflect.MakeSlice(v.Type(), 0, 0))
		}
		for i := range v.Len() {
			emptied(v.Index(i))
		}
	case reflect.Struct:
		for i := range v.NumField() {
			emptied(v.Field(i))
		}
	}
}

// R4: an empty list is a nil one.
func TestNilAndEmpty(t *testing.T) {
	g := rand.New(rand.NewSource(42))
	for range 500 {
		q := someAsked(g)
		o := copied(q.office)
		emptied(reflect.ValueOf(&o).Elem())
		a := ask(q)
		q.office = o
		if b := ask(q); !same(a, b) {
			t.Fatal(shown(a), shown(b))
		}
	}
	o := with(example(), func(o *api.Office) { o.Specimens, o.Records = nil, nil })
	for _, d := range []api.Deed{{}, {Nums: list()}, {Word: "day", Nums: list()}, {Word: "day"}} {
		if next, said, e := desk.Do(o, d); !same(next, api.Office{}) || said != "" || e != api.ErrDeed {
			t.Error(d, next, said, e)
		}
	}
}

func someNumber(g *rand.Rand) int {
	return someOf(g, list(math.MinInt, math.MinInt+1, -1000000001, -1000000000, -100001, -1, -1, 0, 0, 0, 1, 1, 2, 3, 5, 7, 10, 40, 60, 61, 255, 256, 257, 9999, 10000, 100000, 100001, 1000000000, 1000000001, math.MaxInt32, math.MaxInt-1, math.MaxInt))
}

// spoil changes something of a value: a number to any one, or a list to a shorter one, or to one with something twice.
func spoil(g *rand.Rand, v reflect.Value) {
	switch v.Kind() {
	case reflect.Slice:
		n := v.Len()
		if n == 0 || g.Intn(6) == 0 {
			switch at := g.Intn(n + 1); {
			case at < n:
				v.Set(reflect.AppendSlice(v.Slice3(0, at, at), v.Slice(at+g.Intn(2), n)))
			case n > 0:
				v.Set(reflect.AppendSlice(v.Slice3(0, n, n), v))
			default:
				v.Set(reflect.MakeSlice(v.Type(), 1, 1))
			}
			return
		}
		spoil(g, v.Index(g.Intn(n)))
	case reflect.Array:
		spoil(g, v.Index(g.Intn(v.Len())))
	case reflect.Struct:
		spoil(g, v.Field(g.Intn(v.NumField())))
	case reflect.Int:
		v.SetInt(int64(someNumber(g)))
	case reflect.Uint8:
		v.SetUint(uint64(g.Intn(256)))
	case reflect.String:
		v.SetString(someOf(g, []string{"", "deed", "day", "shut", "DAY", "\xff", "grant"}))
	}
}

// R2, R5, R6 and R7: any values at all.
func TestAnyValues(t *testing.T) {
	g := rand.New(rand.NewSource(43))
	seen := map[api.Errno]int{}
	for range 6000 {
		q := someAsked(g)
		q.office, q.deed, q.log = copied(q.office), spared(q.deed), spared(q.log)
		for range g.Intn(3) {
			spoil(g, reflect.ValueOf(&q.office).Elem())
		}
		if g.Intn(3) == 0 {
			spoil(g, reflect.ValueOf(&q.deed).Elem())
		}
		if g.Intn(3) == 0 {
			spoil(g, reflect.ValueOf(&q.log).Elem())
		}
		if g.Intn(3) == 0 {
			q.certificate = someNumber(g)
		}
		if g.Intn(3) == 0 {
			q.text = someText(g)
		}
		a := ask(q)
		if !a.zeroBesideErrors() {
			t.Fatal(shown(a), shown(q))
		}
		for _, e := range a.errors {
			seen[e]++
		}
	}
	for _, e := range []api.Errno{api.OK, api.ErrArg, api.ErrNone, api.ErrBad, api.ErrOffice, api.ErrDeed, api.ErrRefused, api.ErrLogLine, api.ErrLogSeal} {
		if seen[e] < 50 {
			t.Error("never, or too seldom", e, seen)
		}
		delete(seen, e)
	}
	delete(seen, api.ErrFull)
	if len(seen) > 0 {
		t.Error("other errors", seen)
	}
}

// R7: lists that are far too long, and empty values.
func TestHugeValues(t *testing.T) {
	many := with(busy(), func(o *api.Office) {
		o.Clauses, o.Specimens, o.Shut = slices.Repeat(o.Clauses, 1000), slices.Repeat(o.Specimens, 1000), slices.Repeat(o.Shut, 1000)
	})
	more := with(busy(), func(o *api.Office) {
		o.Prints, o.Records, o.Letters = slices.Repeat(o.Prints, 1000), slices.Repeat(o.Records, 1000), slices.Repeat(o.Letters, 1000)
	})
	most := with(busy(), func(o *api.Office) { o.Grants, o.Log = slices.Repeat(o.Grants, 1000), slices.Repeat(o.Log, 1000) })
	for i, o := range []api.Office{many, more, most, {}} {
		q := asked{office: o, deed: deed("day 60"), log: slices.Repeat(deeds("day 60"), 100000), text: "1"}
		if a := ask(q); !a.zeroBesideErrors() || a.errors != [6]api.Errno{api.ErrOffice, api.ErrOffice, api.ErrOffice, api.ErrOffice, api.ErrArg, api.ErrLogLine} {
			t.Error(i, a.errors)
		}
	}
	q := asked{office: busy(), deed: api.Deed{Word: "batch", Nums: slices.Repeat(list(1), 1000000)}, log: slices.Repeat(deeds("day 60"), 100000)}
	if a := ask(q); !a.zeroBesideErrors() || a.errors != [6]api.Errno{api.OK, api.ErrDeed, api.ErrFull, api.ErrNone, api.ErrArg, api.OK} || a.at != 148 {
		t.Error(a.errors, a.at)
	}
}
