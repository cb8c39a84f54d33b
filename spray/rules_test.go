package spray_test

import (
	"math"
	"math/rand"
	"reflect"
	"slices"
	"testing"

	"cottonpad/api"
	"cottonpad/spray"
)

// asked is all that the functions of the package are asked with.
type asked struct {
	n         api.Net
	open, out []int
	heats     [][]int
}

// heat is that of the first head, and nothing if there is none.
func (x asked) heat() []int {
	if len(x.heats) == 0 {
		return nil
	}
	return x.heats[0]
}

// head is the first one, and an empty one if there is none.
func (x asked) head() api.Head {
	if len(x.n.Heads) == 0 {
		return api.Head{}
	}
	return x.n.Heads[0]
}

// answers is all that the functions of the package return of the same arguments.
type answers struct {
	lists   [6][]int
	spans   []api.Span
	lacks   [2]api.Lack
	numbers [3]int
	errors  [7]api.Errno
}

func ask(x asked) answers {
	var a answers
	a.errors[0] = spray.Check(x.n)
	a.lists[0], a.errors[1] = spray.Flows(x.n, x.open)
	a.spans, a.errors[2] = spray.Press(x.n, x.open, x.out)
	a.lacks[0], a.errors[3] = spray.Gets(x.n, x.open)
	a.lists[1], a.lists[2], a.lacks[1], a.errors[4] = spray.Fire(x.n, x.heats)
	a.numbers[0], a.lists[3], a.errors[5] = spray.Most(x.n)
	a.numbers[1], a.numbers[2], a.errors[6] = spray.Bursts(x.head(), x.heat())
	a.lists[4], a.lists[5] = a.lacks[0].Out, a.lacks[1].Out
	return a
}

// zeroBesideErrors is R2.
func (a answers) zeroBesideErrors() bool {
	return (a.errors[1] == api.OK || len(a.lists[0]) == 0) &&
		(a.errors[2] == api.OK || len(a.spans) == 0) &&
		(a.errors[3] == api.OK || isZero(a.lacks[0])) &&
		(a.errors[4] == api.OK || len(a.lists[1]) == 0 && len(a.lists[2]) == 0 && isZero(a.lacks[1])) &&
		(a.errors[5] == api.OK || a.numbers[0] == 0 && len(a.lists[3]) == 0) &&
		(a.errors[6] == api.OK || a.numbers[1] == 0 && a.numbers[2] == 0)
}

// ordered returns whether spans are not empty, and whether what is known is one of the things that there are, with nothing beside it if it is sure.
func (a answers) ordered() bool {
	for _, l := range a.lacks {
		if l.Known > api.KnownYes || l.Known == api.KnownYes && (l.Head != 0 || len(l.Out) > 0) {
			return false
		}
	}
	return !slices.ContainsFunc(a.spans, func(s api.Span) bool { return s.Lo > s.Hi })
}

// copied is the same answers in other memory; an empty list becomes a nil one.
func (a answers) copied() answers {
	for i, list := range a.lists {
		a.lists[i] = append([]int(nil), list...)
	}
	a.spans = append([]api.Span(nil), a.spans...)
	a.lacks[0].Out, a.lacks[1].Out = nil, nil
	return a
}

// spare puts a list into memory that goes on behind it, with marks that must stay.
func spare[T any](list []T, mark T) []T {
	return append(slices.Clone(list), mark, mark)[:len(list)]
}

func (x asked) spared() asked {
	n := copyOf(x.n)
	n.Pipes, n.Heads, n.Pumps = spare(n.Pipes, api.Pipe{To: 77}), spare(n.Heads, api.Head{Id: 77}), spare(n.Pumps, api.Pump{Slope: 77})
	heats := spare(x.heats, []int{77})
	for i := range heats {
		heats[i] = spare(heats[i], 77)
	}
	return asked{n: n, open: spare(x.open, 77), out: spare(x.out, 77), heats: heats}
}

// behind is a copy of all memory of arguments, to the capacity of each list.
func (x asked) behind() asked {
	n := x.n
	n.Pipes, n.Heads, n.Pumps = n.Pipes[:cap(n.Pipes)], n.Heads[:cap(n.Heads)], n.Pumps[:cap(n.Pumps)]
	heats := slices.Clone(x.heats[:cap(x.heats)])
	for i, list := range heats {
		heats[i] = slices.Clone(list[:cap(list)])
	}
	return asked{n: copyOf(n), open: slices.Clone(x.open[:cap(x.open)]), out: slices.Clone(x.out[:cap(x.out)]), heats: heats}
}

// scribble writes to all memory of a list of numbers.
func scribble(list []int) {
	for i := range list[:cap(list)] {
		list[:cap(list)][i] = 99
	}
}

func someAsked(g *rand.Rand, t *testing.T) asked {
	n, open := someOf(g, append(sizes(), small())).poised(g, t)
	x := asked{n: n, open: open, out: someOf(g, states(n))}
	for range n.Heads {
		x.heats = append(x.heats, someHeat(g, between(g, 0, 25)))
	}
	return x
}

// R3: no argument is written to, no result shares memory with an argument or another one, and no call remembers another one.
func TestMemory(t *testing.T) {
	g := rand.New(rand.NewSource(20))
	seen := [6]int{}
	for range 500 {
		x := someAsked(g, t).spared()
		before := x.behind()
		a := ask(x)
		kept := a.copied()
		for i, list := range a.lists {
			if !slices.Equal(list, kept.lists[i]) {
				t.Fatal("results share memory", i)
			}
			seen[i] += len(list)
			scribble(list)
		}
		for i := range a.spans[:cap(a.spans)] {
			a.spans[:cap(a.spans)][i] = span(99, 99)
		}
		ask(someAsked(g, t))
		if b := ask(x).copied(); !reflect.DeepEqual(kept, b) {
			t.Fatal(kept, b)
		}
		if !reflect.DeepEqual(before, x.behind()) {
			t.Fatal("an argument is written to, or a result is a part of one")
		}
	}
	for i, count := range seen {
		if count < 20 {
			t.Error("too few", i, seen)
		}
	}
}

// R4: an empty list is a nil one.
func TestNilAndEmpty(t *testing.T) {
	x := asked{n: example(), heats: [][]int{nil, nil}}
	y := asked{n: example(), open: []int{}, out: []int{}, heats: [][]int{{}, {}}}
	if a, b := ask(x).copied(), ask(y).copied(); !reflect.DeepEqual(a, b) || a.errors != [7]api.Errno{} {
		t.Error(a, b)
	}
	x.n = api.Net{}
	y.n = api.Net{Pipes: []api.Pipe{}, Heads: []api.Head{}, Pumps: []api.Pump{}}
	if a, b := ask(x).copied(), ask(y).copied(); !reflect.DeepEqual(a, b) || a.errors[0] != api.ErrNet {
		t.Error(a, b)
	}
}

// someNumber is one of any size and sign.
func someNumber(g *rand.Rand) int {
	list := []int{math.MinInt, math.MinInt + 1, -1001, -1, -1, 0, 0, 0, 1, 1, 1, 2, 2, 3, 4, 5, 8, 9, 10, 11, 12, 13, 60, 100, 101, 500, 501, 600, 601, 1000, 1001, 2000, 9999, 10000, 100000, 100001, 1000000, 1000001, math.MaxInt32, math.MaxInt - 120, math.MaxInt - 1, math.MaxInt}
	return someOf(g, list)
}

func anySpan(g *rand.Rand) api.Span {
	n := someNumber(g)
	return someOf(g, []api.Span{span(n, n), span(0, n), span(n, someNumber(g))})
}

// change changes something of the arguments to any value; each list has something in it.
func (x *asked) change(g *rand.Rand) {
	p, h, m := &x.n.Pipes[g.Intn(len(x.n.Pipes))], &x.n.Heads[g.Intn(len(x.n.Heads))], &x.n.Pumps[g.Intn(len(x.n.Pumps))]
	numbers := []*int{&p.From, &p.To, &h.Id, &h.Node, &h.Need, &h.Least, &m.Slope, &x.n.Out, &x.n.Minutes}
	spans := []*api.Span{&p.Foul, &h.Bulb, &h.Slow, &m.Full, &x.n.Tank}
	switch g.Intn(9) {
	case 0, 1:
		*someOf(g, numbers) = someNumber(g)
	case 2, 3:
		*someOf(g, spans) = anySpan(g)
	case 4:
		x.open = append(x.open, someNumber(g))
	case 5:
		x.out = append(x.out, someNumber(g))
	case 6:
		x.heats[g.Intn(len(x.heats))] = []int{someNumber(g), someNumber(g)}
	case 7:
		x.heats = slices.Repeat(x.heats, between(g, 1, 2))
	case 8:
		x.n.Pipes, x.n.Heads, x.n.Pumps = slices.Repeat(x.n.Pipes, between(g, 1, 2)), slices.Repeat(x.n.Heads, between(g, 1, 2)), slices.Repeat(x.n.Pumps, between(g, 1, 2))
	}
}

// R2, R5, R6 and R7: any values at all.
func TestAnyValues(t *testing.T) {
	g := rand.New(rand.NewSource(21))
	seen := map[api.Errno]int{}
	for range 8000 {
		x := asked{n: example(), open: []int{5, 9}, out: []int{1}, heats: [][]int{{20, 68, 72, 80}, {145, 145, 145}}}
		for range between(g, 1, 3) {
			x.change(g)
		}
		a := ask(x)
		if !a.zeroBesideErrors() || !a.ordered() {
			t.Fatal(a, x)
		}
		for i, e := range a.errors {
			seen[e]++
			// What is wrong with a net is told by all functions but Bursts.
			if a.errors[0] != api.OK && i < 6 && e != a.errors[0] {
				t.Fatal(a, x)
			}
		}
	}
	for _, e := range []api.Errno{api.OK, api.ErrArg, api.ErrNet, api.ErrHeat} {
		if seen[e] < 100 {
			t.Error("never, or too seldom", e, seen)
		}
		delete(seen, e)
	}
	if len(seen) > 0 {
		t.Error("other errors", seen)
	}
}
