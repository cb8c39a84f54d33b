package extend

import (
	"iter"

	"cottonpad/api"
	"cottonpad/class"
)

// maxMinutes is the greatest class, and so the most minutes of a wish.
const maxMinutes = 60

// noClause stands for none.
const noClause = -1

// classes returns all classes of layer 2, in minutes.
func classes() []int { return []int{5, 10, 15, 20, 30, 45, maxMinutes} }

// key is of a class: that of a specimen (by its index, since Ids of tests need not differ) for a letter.
type key struct {
	specimen int
	letter   uint8
}

// work is a wish at work, with clauses and specimens, all of them valid. Classes that hold whatever is true are kept as soon as they are asked for.
type work struct {
	api.Wish
	clauses   []api.Clause
	specimens []api.Specimen
	classes   map[key]int
}

func atWork(c []api.Clause, s []api.Specimen, w api.Wish) work {
	return work{Wish: w, clauses: c, specimens: s, classes: map[key]int{}}
}

// ask is what a kind of clauses asks: the values of a wish that it allows, by that of a specimen, and by how much it may differ.
type ask struct {
	allows func(value, by int) api.Span
}

// asks returns what all kinds of clauses ask.
func asks() [api.ClauseFrom + 1]ask {
	return [...]ask{
		api.ClauseSame: {func(value, _ int) api.Span { return api.Span{Lo: value, Hi: value} }},
		api.ClauseUpTo: {func(value, by int) api.Span { return api.Span{Lo: values().Lo, Hi: value + by} }},
		api.ClauseFrom: {func(value, by int) api.Span { return api.Span{Lo: value - by, Hi: values().Hi} }},
	}
}

// allowed returns the values with which a clause allows the wish to be, by a specimen.
func (k *work) allowed(c api.Clause, specimen int) api.Span {
	return asks()[c.Kind].allows(k.specimens[specimen].Props[c.Property], c.By)
}

// class returns the class that a specimen has whatever is true.
func (k *work) class(specimen int) int {
	at := key{specimen: specimen, letter: k.Letter}
	minutes, known := k.classes[at]
	if !known {
		s, _ := class.Class(k.specimens[specimen].Test, k.Letter)
		minutes = s.Lo
		k.classes[at] = minutes
	}
	return minutes
}

// lasting yields the specimens whose class is enough for a clause, whatever their properties are.
func (k *work) lasting(c api.Clause) iter.Seq[int] {
	return func(yield func(int) bool) {
		for i := range len(k.specimens) {
			if k.class(i) >= k.Minutes+c.Over && !yield(i) {
				return
			}
		}
	}
}

// proving yields the specimens that prove a clause.
func (k *work) proving(c api.Clause) iter.Seq[int] {
	return func(yield func(int) bool) {
		for i := range k.lasting(c) {
			if within(k.allowed(c, i), k.Props[c.Property]) && !yield(i) {
				return
			}
		}
	}
}

// proofs returns for each clause the set of specimens that prove it.
func (k *work) proofs() []int {
	list := make([]int, len(k.clauses))
	for i, c := range k.clauses {
		for specimen := range k.proving(c) {
			list[i] |= bit(specimen)
		}
	}
	return list
}

// lacks returns the first clause that no specimen of a set proves, or noClause.
func (k *work) lacks(set int) int {
	for i, proof := range k.proofs() {
		if proof&set == 0 {
			return i
		}
	}
	return noClause
}

// covered returns whether all specimens cover the wish.
func (k *work) covered() bool { return k.lacks(bit(len(k.specimens))-1) == noClause }

// reach returns the values of a property, its own one among them, with which a wish is covered that is covered as it is.
func (k *work) reach(property int) api.Span {
	reach := values()
	for _, c := range k.clauses {
		if c.Property == property {
			s := k.reachOf(c)
			reach = api.Span{Lo: max(reach.Lo, s.Lo), Hi: min(reach.Hi, s.Hi)}
		}
	}
	return reach
}

// reachOf returns the values, the wish's own one among them, with which some specimen proves a clause.
func (k *work) reachOf(c api.Clause) api.Span {
	own := k.Props[c.Property]
	reach := api.Span{Lo: own, Hi: own}
	// What one specimen allows may touch the reach only by what a later one allows; each round joins one more at least, or none is left to be joined.
	for range k.specimens {
		for i := range k.lasting(c) {
			if s := k.allowed(c, i); touch(s, reach) {
				reach = api.Span{Lo: min(reach.Lo, s.Lo), Hi: max(reach.Hi, s.Hi)}
			}
		}
	}
	return reach
}

// touch returns whether no number is between two spans.
func touch(a, b api.Span) bool { return a.Lo <= b.Hi+1 && b.Lo <= a.Hi+1 }
