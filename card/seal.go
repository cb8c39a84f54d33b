package card

import "cottonpad/api"

// seal goes on from line to line: how many there are, and the sum of their checks, each one times the number of its line.
type seal struct{ lines, sum int }

func (s *seal) goOn(check int) {
	s.lines++
	s.sum = (s.sum + check*s.lines) % api.CardPrime
}

// source is what a card tells of its log: the Id of the run, and the sum of the seal.
type source struct{ id, sum int }

func sourceOf(r api.Run, u api.Rules) source {
	return source{id: r.Id, sum: logOf(r, u).sum}
}
