package spray_test

import (
	"slices"
	"testing"

	"cottonpad/api"
	"cottonpad/spray"
)

// P5.1: the chapter's examples of flows, and those with other heads open.
func TestExampleFlows(t *testing.T) {
	n := example()
	if e := spray.Check(n); e != api.OK {
		t.Fatal(e)
	}
	for _, x := range []struct{ open, want []int }{
		{[]int{5, 9}, []int{180, 80, 100}},
		{[]int{9}, []int{100, 0, 100}},
		{[]int{5}, []int{80, 80, 0}},
		{nil, []int{0, 0, 0}},
	} {
		if list := flows(t, n, x.open...); !slices.Equal(list, x.want) {
			t.Error(x, list)
		}
	}
}

// P5.1: the chapter's examples of pressures, and those with other heads open.
func TestExamplePress(t *testing.T) {
	for i, x := range []struct {
		open, out []int
		want      []api.Span
	}{
		{[]int{5, 9}, nil, []api.Span{span(1582, 2276), span(902, 1276)}},
		{[]int{5, 9}, []int{0}, []api.Span{span(732, 1376), span(52, 376)}},
		// 3,000 to 3,100, less 900, less 324 to 648, less 0 to 320, or 1,000.
		{[]int{5, 9}, []int{1}, []api.Span{span(1132, 1876), span(452, 876)}},
		// Shares of 40: 2,800 to 2,900; pipes take 64 to 128, and 0 to 320.
		{[]int{5}, nil, []api.Span{span(2352, 2836)}},
		// Shares of 50: 2,750 to 2,850; pipes take 100 to 200, and 1,000.
		{[]int{9}, nil, []api.Span{span(1550, 1750)}},
		{nil, nil, nil},
		{nil, []int{1}, nil},
	} {
		if list := press(t, example(), x.open, x.out); !slices.Equal(list, x.want) {
			t.Error(i, list)
		}
	}
}

// The example 5 of the document: 3,000 less 5 times 90, less 648 and 320.
func TestDocumentExample(t *testing.T) {
	n := with(example(), func(n *api.Net) {
		n.Pumps[0].Full, n.Pipes[0].Foul, n.Pipes[1].Foul = span(3000, 3000), span(20, 20), span(50, 50)
	})
	if list := press(t, n, []int{5, 9}, nil); list[0] != span(1582, 1582) {
		t.Error(list)
	}
}

// P5.1: shares, and what a pipe takes, are rounded up.
func TestRounding(t *testing.T) {
	net := func(need, foul, pumps int) api.Net {
		n := api.Net{
			Pipes: []api.Pipe{{From: 0, To: 1, Foul: span(foul, foul)}},
			Heads: []api.Head{{Id: 1, Node: 1, Need: need}},
		}
		for range pumps {
			n.Pumps = append(n.Pumps, api.Pump{Full: span(1000, 1000), Slope: 10})
		}
		return n
	}
	for _, x := range []struct{ need, foul, pumps, want int }{
		{10, 0, 1, 900}, {10, 0, 2, 950}, {10, 0, 3, 960}, {9, 0, 3, 970}, {10, 0, 4, 970}, {8, 0, 4, 980}, {1, 0, 4, 990},
		// 10 times 10 are 100: 9 of them are rounded up to 1, and 11 to 2.
		{10, 1, 1, 899}, {10, 9, 1, 899}, {10, 10, 1, 899}, {10, 11, 1, 898}, {10, 20, 1, 898}, {10, 21, 1, 897},
		{1, 1, 1, 989}, {1, 1000, 1, 989}, {2, 250, 1, 979}, {2, 251, 1, 978}, {2, 1000, 1, 976},
	} {
		if list := press(t, net(x.need, x.foul, x.pumps), []int{1}, nil); !slices.Equal(list, []api.Span{span(x.want, x.want)}) {
			t.Error(x, list)
		}
	}
}

// P5.1: what each of several pipes takes is rounded up by itself.
func TestRoundingOfEachPipe(t *testing.T) {
	n := api.Net{
		Pipes: []api.Pipe{{From: 0, To: 1, Foul: span(1, 4)}, {From: 1, To: 2, Foul: span(1, 4)}, {From: 2, To: 3, Foul: span(0, 4)}},
		Heads: []api.Head{{Id: 1, Node: 3, Need: 10}},
		Pumps: []api.Pump{{Full: span(100, 100)}},
	}
	if list := press(t, n, []int{1}, nil); !slices.Equal(list, []api.Span{span(97, 98)}) {
		t.Error(list)
	}
}

// P5.1: pumps with a fall of their own: which one gives the least depends on the flow, and on what is true.
func TestLeastPump(t *testing.T) {
	n := api.Net{
		Pipes: []api.Pipe{{From: 0, To: 1}},
		Heads: []api.Head{{Id: 1, Node: 1, Need: 10}, {Id: 2, Node: 1, Need: 20}},
		Pumps: []api.Pump{{Full: span(100, 400), Slope: 0}, {Full: span(300, 320), Slope: 10}, {Full: span(200, 500), Slope: 1}},
		Out:   2,
	}
	for i, x := range []struct {
		open, out []int
		want      []api.Span
	}{
		// Shares of 10: 100 to 400, 200 to 220, 190 to 490.
		{[]int{1, 2}, nil, []api.Span{span(100, 220), span(100, 220)}},
		// Shares of 15: 150 to 170, 185 to 485.
		{[]int{1, 2}, []int{0}, []api.Span{span(150, 170), span(150, 170)}},
		{[]int{1, 2}, []int{1}, []api.Span{span(100, 400), span(100, 400)}},
		{[]int{1, 2}, []int{0, 1}, []api.Span{span(170, 470), span(170, 470)}},
		{[]int{1, 2}, []int{0, 2}, []api.Span{span(0, 20), span(0, 20)}},
		{[]int{2}, []int{1, 2}, []api.Span{span(100, 400)}},
		// Shares of 4, of 10 by 3.
		{[]int{1}, nil, []api.Span{span(100, 280)}},
	} {
		if list := press(t, n, x.open, x.out); !slices.Equal(list, x.want) {
			t.Error(i, list)
		}
	}
}

// P5.1: a pipe without a flow takes nothing, however foul it is.
func TestPipeWithoutFlow(t *testing.T) {
	n := with(example(), func(n *api.Net) {
		n.Pipes = append(n.Pipes, api.Pipe{From: 2, To: 4, Foul: span(0, 1000)}, api.Pipe{From: 0, To: 5, Foul: span(1000, 1000)})
	})
	if list := flows(t, n, 5, 9); !slices.Equal(list, []int{180, 80, 100, 0, 0}) {
		t.Error(list)
	}
	if list := press(t, n, []int{5, 9}, nil); !slices.Equal(list, []api.Span{span(1582, 2276), span(902, 1276)}) {
		t.Error(list)
	}
}

// P5.2: the chapter's examples, and what the same net lacks else.
func TestExampleGets(t *testing.T) {
	n := example()
	for _, x := range []struct {
		open []int
		want api.Lack
	}{
		{[]int{5, 9}, api.Lack{Known: api.KnownOpen, Head: 9, Out: []int{0}}},
		{[]int{5}, api.Lack{Known: api.KnownYes}},
		{[]int{9}, api.Lack{Known: api.KnownYes}},
		{nil, api.Lack{Known: api.KnownYes}},
	} {
		if l := gets(t, n, x.open...); !same(l, x.want) {
			t.Error(x, l)
		}
	}
}

// P5.2: a head that asks for the least pressure gets it for sure, and one that asks for more than the greatest one does not.
func TestLeastPressures(t *testing.T) {
	for _, x := range []struct {
		least, out int
		want       api.Lack
	}{
		// With no pump out the head 9 has 902 to 1,276, with the pump 0 out 52 to 376, with the other one out 452 to 876.
		{902, 0, api.Lack{Known: api.KnownYes}},
		{903, 0, api.Lack{Known: api.KnownOpen, Head: 9}},
		{1276, 0, api.Lack{Known: api.KnownOpen, Head: 9}},
		{1277, 0, api.Lack{Known: api.KnownNo, Head: 9}},
		{52, 1, api.Lack{Known: api.KnownYes}},
		{53, 1, api.Lack{Known: api.KnownOpen, Head: 9, Out: []int{0}}},
		{902, 1, api.Lack{Known: api.KnownOpen, Head: 9, Out: []int{0}}},
		{903, 1, api.Lack{Known: api.KnownOpen, Head: 9}},
		{1276, 1, api.Lack{Known: api.KnownOpen, Head: 9}},
		{1277, 1, api.Lack{Known: api.KnownNo, Head: 9}},
	} {
		n := with(example(), func(n *api.Net) { n.Heads[1].Least, n.Out = x.least, x.out })
		if l := gets(t, n, 5, 9); !same(l, x.want) {
			t.Error(x, l)
		}
	}
}

// P5.2: a tank that holds just as much as is needed, one less, and so on.
func TestTank(t *testing.T) {
	for _, x := range []struct {
		tank    api.Span
		minutes int
		want    api.Lack
	}{
		{span(5400, 5400), 30, api.Lack{Known: api.KnownYes}},
		{span(5399, 5400), 30, api.Lack{Known: api.KnownOpen, Head: api.TheTank}},
		{span(0, 5400), 30, api.Lack{Known: api.KnownOpen, Head: api.TheTank}},
		{span(0, 5399), 30, api.Lack{Known: api.KnownNo, Head: api.TheTank}},
		{span(5399, 5399), 30, api.Lack{Known: api.KnownNo, Head: api.TheTank}},
		{span(0, 0), 0, api.Lack{Known: api.KnownYes}},
		{span(0, 0), 1, api.Lack{Known: api.KnownNo, Head: api.TheTank}},
		{span(179, 180), 1, api.Lack{Known: api.KnownOpen, Head: api.TheTank}},
		{span(108000, 108000), 600, api.Lack{Known: api.KnownYes}},
	} {
		n := with(example(), func(n *api.Net) { n.Tank, n.Minutes, n.Out = x.tank, x.minutes, 0 })
		if l := gets(t, n, 5, 9); !same(l, x.want) {
			t.Error(x, l)
		}
		if l := gets(t, n); !same(l, api.Lack{Known: api.KnownYes}) {
			t.Error(x, l)
		}
	}
}

// P5.2: a head is told before the tank if both lack with the same pumps out; the tank, if no pump has to be out for it.
func TestHeadAndTank(t *testing.T) {
	for _, x := range []struct {
		least int
		want  api.Lack
	}{
		{400, api.Lack{Known: api.KnownOpen, Head: api.TheTank}},
		{903, api.Lack{Known: api.KnownOpen, Head: 9}},
		{1277, api.Lack{Known: api.KnownNo, Head: 9}},
	} {
		n := with(example(), func(n *api.Net) { n.Heads[1].Least, n.Tank = x.least, span(0, 7000) })
		if l := gets(t, n, 5, 9); !same(l, x.want) {
			t.Error(x, l)
		}
		n.Tank = span(0, 1)
		x.want.Known = api.KnownNo
		if l := gets(t, n, 5, 9); !same(l, x.want) {
			t.Error(x, l)
		}
	}
}

// P5.2: the least Id of several heads that may lack their water.
func TestLeastId(t *testing.T) {
	n := with(example(), func(n *api.Net) { n.Heads[0].Least = 733 })
	if l := gets(t, n, 5, 9); !same(l, api.Lack{Known: api.KnownOpen, Head: 5, Out: []int{0}}) {
		t.Error(l)
	}
	n.Heads[0].Id = 0
	if l := gets(t, n, 0, 9); !same(l, api.Lack{Known: api.KnownOpen, Head: 0, Out: []int{0}}) {
		t.Error(l)
	}
}

// pumps is a net with one head that needs 60, and pumps.
func pumps(least, out int, list ...api.Pump) api.Net {
	return api.Net{
		Pipes: []api.Pipe{{From: 0, To: 1}},
		Heads: []api.Head{{Id: 7, Node: 1, Need: 60, Least: least}},
		Pumps: list,
		Out:   out,
	}
}

// P5.2: the fewest pumps that are out come first, then the first list; and a pump that is weak may better be out.
func TestFirstPumpsOut(t *testing.T) {
	flat := func(full int) api.Pump { return api.Pump{Full: span(full, full)} }
	steep := func(full int) api.Pump { return api.Pump{Full: span(full, full), Slope: 10} }
	for i, x := range []struct {
		n    api.Net
		want api.Lack
	}{
		// Shares of 15, 20, 30 and 60.
		{pumps(850, 3, steep(1000), steep(1000), steep(1000), steep(1000)), api.Lack{Known: api.KnownOpen, Head: 7, Out: []int{0}}},
		{pumps(800, 3, steep(1000), steep(1000), steep(1000), steep(1000)), api.Lack{Known: api.KnownOpen, Head: 7, Out: []int{0, 1}}},
		{pumps(700, 3, steep(1000), steep(1000), steep(1000), steep(1000)), api.Lack{Known: api.KnownOpen, Head: 7, Out: []int{0, 1, 2}}},
		{pumps(700, 2, steep(1000), steep(1000), steep(1000), steep(1000)), api.Lack{Known: api.KnownYes}},
		{pumps(400, 3, steep(1000), steep(1000), steep(1000), steep(1000)), api.Lack{Known: api.KnownYes}},
		{pumps(851, 3, steep(1000), steep(1000), steep(1000), steep(1000)), api.Lack{Known: api.KnownNo, Head: 7}},
		// One pump falls, the others do not: it is the others that have to be out.
		{pumps(700, 2, flat(1000), steep(1000), flat(1000)), api.Lack{Known: api.KnownOpen, Head: 7, Out: []int{0, 2}}},
		{pumps(800, 2, flat(1000), steep(1000), flat(1000)), api.Lack{Known: api.KnownOpen, Head: 7, Out: []int{0}}},
		{pumps(700, 2, steep(1000), flat(1000), flat(1000)), api.Lack{Known: api.KnownOpen, Head: 7, Out: []int{1, 2}}},
		{pumps(700, 2, flat(1000), flat(1000), steep(1000)), api.Lack{Known: api.KnownOpen, Head: 7, Out: []int{0, 1}}},
		{pumps(750, 3, flat(1000), steep(1000), steep(1000), flat(1000)), api.Lack{Known: api.KnownOpen, Head: 7, Out: []int{0, 1}}},
		{pumps(700, 3, flat(1000), steep(1000), steep(1000), flat(1000)), api.Lack{Known: api.KnownOpen, Head: 7, Out: []int{0, 1, 3}}},
		{pumps(700, 2, steep(1000), flat(1000), api.Pump{Full: span(1000, 1000), Slope: 5}), api.Lack{Known: api.KnownOpen, Head: 7, Out: []int{1, 2}}},
		{pumps(790, 2, flat(1000), steep(1050), api.Pump{Full: span(890, 890), Slope: 4}), api.Lack{Known: api.KnownOpen, Head: 7, Out: []int{0}}},
		// With 0 2 out it lacks its water, too, but 1 are fewer pumps.
		{pumps(720, 2, steep(1000), api.Pump{Full: span(1000, 1000), Slope: 5}, flat(1000)), api.Lack{Known: api.KnownOpen, Head: 7, Out: []int{1}}},
		// The head gets its water just if the weak pump is out.
		{pumps(500, 1, flat(499), flat(500)), api.Lack{Known: api.KnownOpen, Head: 7}},
		{pumps(500, 0, flat(499), flat(500)), api.Lack{Known: api.KnownNo, Head: 7}},
		{pumps(500, 1, flat(499), flat(500), flat(499)), api.Lack{Known: api.KnownNo, Head: 7}},
		{pumps(500, 2, flat(499), flat(500), flat(499)), api.Lack{Known: api.KnownOpen, Head: 7}},
		{pumps(0, 0, flat(0)), api.Lack{Known: api.KnownYes}},
		{pumps(1, 0, flat(0)), api.Lack{Known: api.KnownNo, Head: 7}},
		{pumps(0, 0, steep(599)), api.Lack{Known: api.KnownNo, Head: 7}},
		{pumps(0, 0, steep(600)), api.Lack{Known: api.KnownYes}},
	} {
		if l := gets(t, x.n, 7); !same(l, x.want) {
			t.Error(i, l, x.want)
		}
	}
}

// P5.2: it is so in some truth just if one truth is so for all heads, and the tank.
func TestNotAllTogether(t *testing.T) {
	n := api.Net{
		Pipes: []api.Pipe{{From: 0, To: 1}},
		Heads: []api.Head{{Id: 1, Node: 1, Need: 1, Least: 500}, {Id: 2, Node: 1, Need: 1}},
		Pumps: []api.Pump{{Full: span(400, 500)}, {Full: span(400, 450)}},
		Tank:  span(0, 19), Minutes: 10,
	}
	for i, x := range []struct {
		change func(n *api.Net)
		want   api.Lack
	}{
		{func(n *api.Net) {}, api.Lack{Known: api.KnownNo, Head: 1}},
		{func(n *api.Net) { n.Tank.Hi = 20 }, api.Lack{Known: api.KnownNo, Head: 1}},
		{func(n *api.Net) { n.Out = 1 }, api.Lack{Known: api.KnownNo, Head: 1}},
		{func(n *api.Net) { n.Out, n.Tank.Hi = 1, 20 }, api.Lack{Known: api.KnownOpen, Head: 1}},
		{func(n *api.Net) { n.Heads[0].Least, n.Heads[1].Least, n.Tank.Hi = 400, 451, 20 }, api.Lack{Known: api.KnownNo, Head: 2}},
		{func(n *api.Net) { n.Heads[0].Least = 400 }, api.Lack{Known: api.KnownNo, Head: api.TheTank}},
	} {
		if l := gets(t, with(n, x.change), 1, 2); !same(l, x.want) {
			t.Error(i, l)
		}
	}
}

// greatest is the net with as much of all as there may be: a row of pipes with all heads at its end.
func greatest() api.Net {
	n := api.Net{Out: api.MaxPumps - 1, Tank: span(0, api.MaxTank), Minutes: api.MaxMinute}
	for i := range api.MaxPipes {
		n.Pipes = append(n.Pipes, api.Pipe{From: i, To: i + 1, Foul: span(0, api.MaxFoul)})
	}
	for i := range api.MaxHeads {
		n.Heads = append(n.Heads, api.Head{
			Id: api.MaxId - api.MaxHeads + 1 + i, Node: api.MaxPipes, Need: api.MaxNeed, Least: api.MaxBar,
			Bulb: span(0, api.MaxDegree), Slow: span(0, api.MaxSlow),
		})
	}
	for range api.MaxPumps {
		n.Pumps = append(n.Pumps, api.Pump{Full: span(0, api.MaxBar), Slope: api.MaxSlope})
	}
	return n
}

// P5.1 to P5.5: as many pipes, heads and pumps as there may be, with the greatest numbers.
func TestGreatestNet(t *testing.T) {
	n := greatest()
	open := ids(n)
	if list := flows(t, n, open...); !slices.Equal(list, slices.Repeat([]int{4000}, 12)) {
		t.Error(list)
	}
	// Twelve pipes take 1,000 times 4,000 times 4,000, divided by 1,000; a pump takes 100 times 4,000, or a part of it.
	for _, x := range []struct {
		out  []int
		want api.Span
	}{
		{nil, span(-100000-192000000, 0)},
		{[]int{3}, span(-133400-192000000, -33400)},
		{[]int{0, 1, 2}, span(-400000-192000000, -300000)},
	} {
		if list := press(t, n, open, x.out); !slices.Equal(list, slices.Repeat([]api.Span{x.want}, 8)) {
			t.Error(x, list)
		}
	}
	if l := gets(t, n, open...); !same(l, api.Lack{Known: api.KnownNo, Head: 9992}) {
		t.Error(l)
	}
	if many, list := most(t, n); many != 0 || !slices.Equal(list, []int{9992}) {
		t.Error(many, list)
	}
	for i := range n.Heads {
		n.Heads[i].Least = 0
	}
	for i := range n.Pipes {
		n.Pipes[i].Foul = span(0, 0)
	}
	for i := range n.Pumps {
		n.Pumps[i].Full.Lo = api.MaxBar
	}
	// One pump is enough for two heads, and the tank for three: 1,500 times 600 are 900,000.
	n.Tank.Lo = api.MaxTank
	if many, list := most(t, n); many != 2 || !slices.Equal(list, []int{9992, 9993, 9994}) {
		t.Error(many, list)
	}
	n.Out = 1
	if many, list := most(t, n); many != 3 || !slices.Equal(list, []int{9992, 9993, 9994, 9995}) {
		t.Error(many, list)
	}
	if l := gets(t, n, open[:4]...); !same(l, api.Lack{Known: api.KnownNo, Head: api.TheTank}) {
		t.Error(l)
	}
	n.Minutes = 0
	if many, list := most(t, n); many != 6 || !slices.Equal(list, open[:7]) {
		t.Error(many, list)
	}
	n.Out = 0
	if many, list := most(t, n); many != 8 || len(list) > 0 {
		t.Error(many, list)
	}
}

// P5.3: the chapter's example, and bulbs that burst in the last minute, just after it, or not at all.
func TestBursts(t *testing.T) {
	head := func(bulb, slow api.Span) api.Head { return api.Head{Id: 5, Node: 2, Need: 80, Bulb: bulb, Slow: slow} }
	five := head(span(66, 70), span(0, 1))
	for i, x := range []struct {
		h    api.Head
		heat []int
		want [2]int
	}{
		{five, []int{20, 68, 72, 80}, [2]int{2, 4}},
		{five, []int{20, 68, 72}, [2]int{2, 0}},
		{five, []int{20, 68}, [2]int{2, 0}},
		{five, []int{20}, [2]int{0, 0}},
		{five, nil, [2]int{0, 0}},
		{five, []int{66}, [2]int{1, 0}},
		{five, []int{65, 65}, [2]int{0, 0}},
		{five, []int{66, 69, 69}, [2]int{1, 0}},
		{five, []int{66, 70, 0}, [2]int{1, 3}},
		{five, []int{70, 0}, [2]int{1, 2}},
		{five, []int{70}, [2]int{1, 0}},
		{five, []int{0, 0, 70, 0, 90}, [2]int{3, 4}},
		{five, []int{67, 0, 0, 0, 90}, [2]int{1, 0}},
		{five, []int{67, 0, 0, 0, 90, 0}, [2]int{1, 6}},
		{head(span(50, 50), span(0, 0)), []int{50}, [2]int{1, 1}},
		{head(span(50, 50), span(0, 0)), []int{49, 51}, [2]int{2, 2}},
		{head(span(50, 50), span(0, 0)), []int{49}, [2]int{0, 0}},
		{head(span(50, 60), span(0, 0)), []int{50, 60}, [2]int{1, 2}},
		{head(span(50, 60), span(0, 0)), []int{60, 50}, [2]int{1, 1}},
		{head(span(50, 50), span(2, 3)), []int{50, 0, 0}, [2]int{3, 0}},
		{head(span(50, 50), span(2, 3)), []int{50, 0, 0, 0}, [2]int{3, 4}},
		{head(span(50, 50), span(2, 3)), []int{50, 0}, [2]int{0, 0}},
		{head(span(50, 50), span(2, 2)), []int{0, 50, 0, 0}, [2]int{4, 4}},
		{head(span(50, 50), span(2, 2)), []int{0, 0, 50, 0}, [2]int{0, 0}},
		{head(span(0, 0), span(0, 0)), []int{0}, [2]int{1, 1}},
		{head(span(0, 0), span(0, 0)), nil, [2]int{0, 0}},
		{head(span(2000, 2000), span(10, 10)), slices.Repeat([]int{2000}, 60), [2]int{11, 11}},
		{head(span(2000, 2000), span(10, 10)), append(make([]int, 49), slices.Repeat([]int{2000}, 11)...), [2]int{60, 60}},
		{head(span(2000, 2000), span(10, 10)), append(make([]int, 50), slices.Repeat([]int{2000}, 10)...), [2]int{0, 0}},
		{head(span(2000, 2000), span(9, 10)), append(make([]int, 50), slices.Repeat([]int{2000}, 10)...), [2]int{60, 0}},
		{head(span(1999, 2000), span(0, 0)), append(make([]int, 59), 1999), [2]int{60, 0}},
	} {
		if minutes := bursts(t, x.h, x.heat...); minutes != x.want {
			t.Error(i, minutes, x)
		}
	}
}

// P5.4: heads whose bulbs burst for sure, perhaps, or not.
func TestFire(t *testing.T) {
	lack := api.Lack{Known: api.KnownOpen, Head: 9, Out: []int{0}}
	yes := api.Lack{Known: api.KnownYes}
	for i, x := range []struct {
		heats     [][]int
		sure, may []int
		lack      api.Lack
	}{
		{[][]int{{20, 68, 72, 80}, {145, 145, 145}}, []int{5, 9}, []int{5, 9}, lack},
		{[][]int{{20, 68, 72}, {145, 145, 145}}, []int{9}, []int{5, 9}, lack},
		{[][]int{{20, 68, 72, 80}, {141, 0, 144}}, []int{5}, []int{5, 9}, lack},
		{[][]int{{66}, {141, 0, 0}}, nil, []int{5, 9}, lack},
		{[][]int{{66}, {141, 0}}, nil, []int{5}, yes},
		{[][]int{{70, 0}, {140, 140, 140}}, []int{5}, []int{5}, yes},
		{[][]int{{65}, {145, 0, 0}}, []int{9}, []int{9}, yes},
		{[][]int{nil, {145, 0, 0}}, []int{9}, []int{9}, yes},
		{[][]int{nil, {}}, nil, nil, yes},
		{[][]int{{0}, {0, 0}}, nil, nil, yes},
	} {
		sure, may, l, e := spray.Fire(example(), x.heats)
		if !slices.Equal(sure, x.sure) || !slices.Equal(may, x.may) || !same(l, x.lack) || e != api.OK {
			t.Error(i, sure, may, l, e)
		}
	}
}

// P5.5: the chapter's example, and others with as many heads as may be, or none.
func TestMost(t *testing.T) {
	three := func(first, second, third int) api.Net {
		return api.Net{
			Pipes: []api.Pipe{{From: 0, To: 1}},
			Heads: []api.Head{{Id: 2, Node: 1, Need: 10, Least: first}, {Id: 4, Node: 1, Need: 10, Least: second}, {Id: 6, Node: 1, Need: 10, Least: third}},
			Pumps: []api.Pump{{Full: span(100, 100), Slope: 1}},
			Tank:  span(30, 30), Minutes: 1,
		}
	}
	for i, x := range []struct {
		n    api.Net
		many int
		want []int
	}{
		{example(), 1, []int{5, 9}},
		{with(example(), func(n *api.Net) { n.Out = 0 }), 2, nil},
		{with(example(), func(n *api.Net) { n.Tank.Lo = 2999 }), 0, []int{9}},
		{with(example(), func(n *api.Net) { n.Tank.Lo = 2399 }), 0, []int{5}},
		{with(example(), func(n *api.Net) { n.Tank = span(0, 0) }), 0, []int{5}},
		{three(70, 70, 70), 3, nil},
		{three(70, 70, 71), 2, []int{2, 4, 6}},
		{three(70, 81, 70), 1, []int{2, 4}},
		{three(70, 70, 81), 1, []int{2, 6}},
		{three(70, 81, 81), 1, []int{2, 4}},
		{three(81, 70, 70), 1, []int{2, 4}},
		{three(90, 90, 91), 0, []int{6}},
		{three(90, 91, 91), 0, []int{4}},
		{three(91, 0, 91), 0, []int{2}},
		{with(three(70, 70, 70), func(n *api.Net) { n.Tank.Lo = 29 }), 2, []int{2, 4, 6}},
		{with(three(70, 70, 70), func(n *api.Net) { n.Tank.Lo = 19 }), 1, []int{2, 4}},
	} {
		if many, list := most(t, x.n); many != x.many || !slices.Equal(list, x.want) {
			t.Error(i, many, list)
		}
	}
}
