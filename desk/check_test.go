package desk_test

import (
	"fmt"
	"slices"
	"testing"

	"cottonpad/api"
	"cottonpad/desk"
)

// expectOffice checks whether an office is valid, by all functions with one; that it is not comes before all else.
func expectOffice(t *testing.T, name any, o api.Office, isValid bool) {
	t.Helper()
	want, deed, certificate := api.ErrOffice, api.ErrOffice, api.ErrOffice
	if isValid {
		want, deed, certificate = api.OK, api.ErrDeed, api.ErrNone
	}
	if e := desk.Check(o); e != want {
		t.Error(name, "Check", e, want)
	}
	if next, said, e := desk.Do(o, api.Deed{Word: "deed"}); !same(next, api.Office{}) || said != "" || e != deed {
		t.Error(name, "Do", next, said, e)
	}
	if next, at, said, e := desk.Replay(o, nil); !same(next, api.Office{}) && !isValid || at != 0 || said != "" || e != want {
		t.Error(name, "Replay", next, at, said, e)
	}
	if holds, minutes, why, e := desk.Tell(o, -1); holds || minutes != 0 || len(why) > 0 || e != certificate {
		t.Error(name, "Tell", holds, minutes, why, e)
	}
}

// P11.1: offices that are valid, of all sizes.
func TestValidOffices(t *testing.T) {
	clause := []api.Clause{{Kind: api.ClauseSame}}
	for i, o := range []api.Office{
		example(), busy(), {Clauses: clause}, {Clauses: clause, Day: api.MaxDay}, {Clauses: slices.Repeat(clause, api.MaxClauses)},
		with(example(), func(o *api.Office) { o.Specimens = slices.Repeat(o.Specimens, api.MaxSpecimens) }),
		with(example(), func(o *api.Office) { o.Log = slices.Repeat(deeds("day 0; restore -1000000000"), api.MaxDeeds/2) }),
	} {
		expectOffice(t, i, o, true)
	}
	expectOffice(t, "zero", api.Office{}, false)
}

// P11.1, R5 and R6: numbers of an office at their bounds, beyond them, and far beyond them.
func TestBounds(t *testing.T) {
	for _, x := range []struct {
		name   string
		field  func(o *api.Office) *int
		lo, hi int
	}{
		{"day", func(o *api.Office) *int { return &o.Day }, 50, 100000},
		{"property of a clause", func(o *api.Office) *int { return &o.Clauses[0].Property }, 0, 5},
		{"by", func(o *api.Office) *int { return &o.Clauses[0].By }, 100, 100000},
		{"over", func(o *api.Office) *int { return &o.Clauses[2].Over }, 0, 5},
		{"id of a test", func(o *api.Office) *int { return &o.Specimens[1].Test.Id }, 0, 9999},
		{"end of a test", func(o *api.Office) *int { return &o.Specimens[1].Test.End }, 1, 180},
		{"limit of a test", func(o *api.Office) *int { return &o.Specimens[1].Test.Limits[2] }, 0, 10000},
		{"press of a row", func(o *api.Office) *int { return &o.Specimens[1].Test.Run.Rows[1].Press }, -100, 100},
		{"single", func(o *api.Office) *int { return &o.Specimens[1].Test.Rules.Single }, 0, 2000},
		{"prop of a specimen", func(o *api.Office) *int { return &o.Specimens[1].Props[5] }, 0, 100000},
		{"first day of prints", func(o *api.Office) *int { return &o.Prints[0].Day }, 0, 10},
		{"second day of prints", func(o *api.Office) *int { return &o.Prints[1].Day }, 10, 50},
		{"last day of prints", func(o *api.Office) *int { return &o.Prints[2].Day }, 10, 50},
		{"minutes of a print", func(o *api.Office) *int { return &o.Prints[1].Minutes }, 15, 15},
		{"specimen of a print", func(o *api.Office) *int { return &o.Prints[1].Specimen }, 0, 0},
		{"first of shut", func(o *api.Office) *int { return &o.Shut[0] }, 0, 0},
		{"last of shut", func(o *api.Office) *int { return &o.Shut[1] }, 2, 2},
		{"id of a record", func(o *api.Office) *int { return &o.Records[4].Id }, 50, 50},
		{"id of the first letter", func(o *api.Office) *int { return &o.Letters[0].Id }, 0, 4},
		{"id of the last letter", func(o *api.Office) *int { return &o.Letters[2].Id }, 6, 9999},
		{"day of the first letter", func(o *api.Office) *int { return &o.Letters[0].Day }, 0, 50},
		{"day of the last letter", func(o *api.Office) *int { return &o.Letters[2].Day }, 0, 50},
		{"id of the first grant", func(o *api.Office) *int { return &o.Grants[0].Id }, 40, 40},
		{"id of the last grant", func(o *api.Office) *int { return &o.Grants[1].Id }, 60, 60},
		{"minutes of a grant", func(o *api.Office) *int { return &o.Grants[0].Wish.Minutes }, 1, 15},
		{"minutes of the other grant", func(o *api.Office) *int { return &o.Grants[1].Wish.Minutes }, 1, 25},
		{"first prop of a grant", func(o *api.Office) *int { return &o.Grants[0].Wish.Props[0] }, 0, 2100},
		{"second prop of a grant", func(o *api.Office) *int { return &o.Grants[0].Wish.Props[1] }, 7, 7},
		{"third prop of a grant", func(o *api.Office) *int { return &o.Grants[0].Wish.Props[2] }, 20, 100000},
		{"last prop of a grant", func(o *api.Office) *int { return &o.Grants[0].Wish.Props[5] }, 0, 100000},
		{"number of a deed", func(o *api.Office) *int { return &o.Log[0].Nums[0] }, -1000000000, 1000000000},
		{"last number of a deed", func(o *api.Office) *int { return &o.Log[1].Nums[1] }, -1000000000, 1000000000},
	} {
		for _, n := range append(beyond(), x.lo-1, x.lo, (x.lo+x.hi)/2, x.hi, x.hi+1) {
			// The chapter does not say whether the first print may have a day below 0.
			if x.name == "first day of prints" && n < 0 {
				continue
			}
			o := with(busy(), func(o *api.Office) { *x.field(o) = n })
			expectOffice(t, fmt.Sprint(x.name, " ", n), o, x.lo <= n && n <= x.hi)
		}
	}
}

// P11.1 and R6: kinds and letters are those that the chapters list.
func TestKindsThatThereAre(t *testing.T) {
	for n := range 256 {
		kind := uint8(n)
		isLetter := kind >= 1 && kind <= 3
		expectOffice(t, n, with(busy(), func(o *api.Office) { o.Prints[0].Letter = kind }), isLetter)
		expectOffice(t, n, with(busy(), func(o *api.Office) { o.Grants[0].Wish.Letter = kind }), isLetter)
		expectOffice(t, n, with(busy(), func(o *api.Office) { o.Clauses[0].Kind = kind }), kind == 2 || kind == 3)
		expectOffice(t, n, with(busy(), func(o *api.Office) { o.Records[0].Kind = kind }), kind == 1 || kind == 2)
		// A batch needs no grant.
		expectOffice(t, n, with(busy(), func(o *api.Office) { o.Records[2].Kind = kind }), kind == api.RecBatch)
		expectOffice(t, n, with(busy(), func(o *api.Office) { o.Letters[0].Kind = kind }), kind == 1 || kind == 2)
		// With a note of another criterion the class that was printed would be too great.
		expectOffice(t, n, with(busy(), func(o *api.Office) { o.Specimens[2].Test.Notes[0].Kind = kind }), kind == api.CritBend)
	}
}

// P11.1: what is not valid in one thing alone.
func TestInvalidOffices(t *testing.T) {
	for i, change := range []func(o *api.Office){
		func(o *api.Office) { o.Day = -1 },
		func(o *api.Office) { o.Clauses = nil },
		func(o *api.Office) { o.Clauses = slices.Repeat(o.Clauses[:1], api.MaxClauses+1) },
		func(o *api.Office) { o.Clauses[1].By = 1 },
		func(o *api.Office) { o.Specimens = slices.Repeat(o.Specimens, 3) },
		func(o *api.Office) { o.Specimens[3].Props = o.Specimens[3].Props[:5] },
		func(o *api.Office) { o.Specimens[3].Props = append(o.Specimens[3].Props, 0) },
		func(o *api.Office) { o.Specimens[3].Test.Run.Rows = nil },
		func(o *api.Office) { o.Specimens[1].Test.Rules.SingleFrom = 0 },
		func(o *api.Office) { o.Specimens[1].Test.Notes = []api.Note{{At: 5, Kind: 1}, {At: 4, Kind: 1}} },
		// A twist.
		func(o *api.Office) {
			o.Specimens[1].Test.Notes = []api.Note{{At: 4, Kind: 1, Value: 101}, {At: 5, Kind: 1}}
		},
		func(o *api.Office) { o.Shut = list(2, 0) },
		func(o *api.Office) { o.Shut = list(0, 0, 2) },
		func(o *api.Office) { o.Shut = list(0, 2, 2) },
		func(o *api.Office) { o.Shut = list(0, 2, 4) },
		func(o *api.Office) { o.Shut = list(-1, 0, 2) },
		// Something was printed of both, and both are needed by a grant.
		func(o *api.Office) { o.Shut = nil },
		func(o *api.Office) { o.Shut = list(0) },
		func(o *api.Office) { o.Shut = list(0, 3) },
		func(o *api.Office) { o.Prints[0].Specimen = 3 },
		func(o *api.Office) { o.Prints = []api.Print{{Specimen: 3, Letter: 1, Minutes: 10, Day: 50}} },
		func(o *api.Office) {
			o.Prints = append(o.Prints, api.Print{Specimen: -1, Letter: 1, Minutes: 15, Day: 50})
		},
		func(o *api.Office) {
			o.Prints = append(o.Prints, api.Print{Specimen: 4, Letter: 1, Minutes: 15, Day: 50})
		},
		func(o *api.Office) { o.Prints = slices.Repeat(o.Prints[:1], api.MaxPrints+1) },
		func(o *api.Office) { o.Prints[0], o.Prints[2] = o.Prints[2], o.Prints[0] },
		// The class of another specimen, a greater one, a lesser one, and none at all.
		func(o *api.Office) { o.Prints[0].Minutes = 15 },
		func(o *api.Office) { o.Prints[1].Minutes = 20 },
		func(o *api.Office) { o.Prints[1].Minutes = 10 },
		func(o *api.Office) {
			o.Shut = list(0, 1, 2)
			o.Prints = append(o.Prints, api.Print{Specimen: 1, Letter: 1, Minutes: 0, Day: 50})
		},
		func(o *api.Office) { o.Prints = []api.Print{{Specimen: 0, Letter: 4, Minutes: 0, Day: 50}} },
		func(o *api.Office) { o.Records[3].Ways[0][0] = 31 },
		func(o *api.Office) { o.Records[0], o.Records[1] = o.Records[1], o.Records[0] },
		func(o *api.Office) {
			o.Records = []api.Record{factory(10), drawing(20), batch(30, list(10, 20)), certificate(40, list(30), list(20)), factory(50), certificate(60, list(50), list(40)), factory(61), factory(62), factory(63), factory(64), factory(65), factory(66), factory(67)}
		},
		func(o *api.Office) { o.Letters[1].About = 11 },
		func(o *api.Office) { o.Letters[1].Id = 3 },
		func(o *api.Office) { o.Letters[0].Day = 51 },
		func(o *api.Office) { o.Letters[1].Day = 51 },
		// A certificate without a grant, a grant without a certificate, one of a record of another kind, two of one, and two in the other order.
		func(o *api.Office) { o.Grants = o.Grants[:1] },
		func(o *api.Office) { o.Grants = o.Grants[1:] },
		func(o *api.Office) { o.Grants = nil },
		func(o *api.Office) { o.Records = o.Records[:5] },
		func(o *api.Office) { o.Records[3].Kind = api.RecBatch },
		func(o *api.Office) { o.Records[2].Kind = api.RecCertificate },
		func(o *api.Office) { o.Grants = append(o.Grants, api.Grant{Id: 61, Wish: o.Grants[1].Wish}) },
		func(o *api.Office) { o.Grants = append([]api.Grant{{Id: 30, Wish: o.Grants[1].Wish}}, o.Grants...) },
		func(o *api.Office) { o.Grants = append(o.Grants, o.Grants[1]) },
		func(o *api.Office) { o.Grants[1] = o.Grants[0] },
		func(o *api.Office) { o.Grants[0], o.Grants[1] = o.Grants[1], o.Grants[0] },
		func(o *api.Office) { o.Grants = slices.Repeat(o.Grants, 5000) },
		// What is no wish, or not covered, or just by what is not shut.
		func(o *api.Office) { o.Grants[0].Wish.Props = nil },
		func(o *api.Office) { o.Grants[0].Wish.Props = append(o.Grants[0].Wish.Props, 0) },
		func(o *api.Office) { o.Grants[0].Wish.Props[0] = 2101 },
		func(o *api.Office) { o.Grants[1].Wish.Minutes = 26 },
		func(o *api.Office) { o.Grants[0].Wish.Props[0], o.Grants[0].Wish.Minutes = 4100, 5 },
		func(o *api.Office) {
			o.Clauses = append(o.Clauses, api.Clause{Property: 3, Kind: api.ClauseFrom})
			o.Specimens[0].Props[3], o.Specimens[2].Props[3] = 1, 1
		},
		func(o *api.Office) { o.Log = slices.Repeat(o.Log, 76) },
		func(o *api.Office) { o.Log[0].Word = "Day" },
		func(o *api.Office) { o.Log[0].Word = "" },
		func(o *api.Office) { o.Log[1].Word = "shut" },
		func(o *api.Office) { o.Log[0].Nums = nil },
		func(o *api.Office) { o.Log[0].Nums = list(1, 2) },
		func(o *api.Office) { o.Log[1].Nums = list(1) },
		func(o *api.Office) { o.Log[1].Nums = list(1, 1000000001) },
	} {
		expectOffice(t, i, with(busy(), change), false)
	}
}

// P11.1: what may be, though it looks odd.
func TestOddOffices(t *testing.T) {
	for i, change := range []func(o *api.Office){
		// What is shut need not be printed, nor granted for.
		func(o *api.Office) { o.Shut = list(0, 1, 2, 3) },
		func(o *api.Office) { o.Prints = nil },
		func(o *api.Office) { o.Prints = slices.Repeat(o.Prints[2:], api.MaxPrints) },
		func(o *api.Office) { o.Prints[1].Day, o.Prints[2].Day = 50, 50 },
		// Letters of any days until this one, in any order, which withdraw what is withdrawn.
		func(o *api.Office) {
			o.Letters = []api.Letter{withdraw(0, 50, 20), withdraw(1, 0, 20), restore(2, 7, 60)}
		},
		// What is granted may hang on what is broken, and be withdrawn.
		func(o *api.Office) { o.Letters = append(o.Letters, withdraw(9, 50, 20), withdraw(10, 50, 60)) },
		func(o *api.Office) { o.Letters = nil },
		func(o *api.Office) { o.Records, o.Grants = o.Records[:5], o.Grants[:1] },
		func(o *api.Office) { o.Records, o.Grants, o.Letters = nil, nil, nil },
		// A Log of deeds that could not be done.
		func(o *api.Office) { o.Log = deeds("shut 77; day -5; batch 1 1 1 1 1; print 0 0") },
		func(o *api.Office) { o.Log = nil },
		func(o *api.Office) { o.Log = slices.Repeat(o.Log, 75) },
		func(o *api.Office) { o.Grants[1].Wish.Props = list(1100, 7, 20, 1, 2, 3) },
	} {
		expectOffice(t, i, with(busy(), change), true)
	}
}

// P11.1: there may be a deed of each word, with each number of Nums that this needs.
func TestLogOfAnOffice(t *testing.T) {
	for word, counts := range tasks() {
		for count := range 16 {
			o := with(busy(), func(o *api.Office) { o.Log = []api.Deed{{Word: word, Nums: make([]int, count)}} })
			expectOffice(t, fmt.Sprint(word, count), o, counts.Lo <= count && count <= counts.Hi)
		}
	}
}
