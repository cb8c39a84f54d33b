package card

import "cottonpad/api"

// Words of lines.
const (
	wordRun    = "RUN"
	wordCurve  = "CURVE"
	wordCouple = "COUPLE"
	wordRules  = "RULES"
	wordStep   = "STEP"
	wordRow    = "ROW"
	wordTest   = "TEST"
	wordNote   = "NOTE"
	wordCert   = "CERT"
	wordRest   = "REST"
	wordEnd    = "END"
)

// sheet is a text that is written, under its seal.
type sheet struct {
	seal
	text string
}

func (s *sheet) add(word string, numbers ...int) {
	line, check := written(word, numbers...)
	s.text += line
	s.goOn(check)
}

// end adds the last line, which is not under the seal itself.
func (s *sheet) end() {
	line, _ := written(wordEnd, s.lines, s.sum)
	s.text += line
}

// fitting returns the text, unless it is too long.
func (s *sheet) fitting() (string, api.Errno) {
	if len(s.text) > api.MaxFile {
		return "", api.ErrFull
	}
	return s.text, api.OK
}

// addEach adds a line for each thing of a list.
func addEach[T any](s *sheet, word string, list []T, numbers func(thing T) []int) {
	for _, thing := range list {
		s.add(word, numbers(thing)...)
	}
}

func logOf(r api.Run, u api.Rules) *sheet {
	s := &sheet{}
	s.add(wordRun, r.Id, r.Gauge.Lo, r.Gauge.Hi)
	var curve []int
	for _, p := range r.Curve {
		curve = append(curve, p.Minute, p.Degree)
	}
	s.add(wordCurve, curve...)
	addEach(s, wordCouple, r.Couples, func(c api.Couple) []int {
		return []int{c.Id, c.Error.Lo, c.Error.Hi, c.Lag.Lo, c.Lag.Hi, c.Breaks}
	})
	s.add(wordRules, u.Single, u.SingleFrom, u.Press.Lo, u.Press.Hi, u.PressFrom)
	addEach(s, wordStep, u.Steps, func(x api.Step) []int { return []int{x.From, x.Part} })
	addEach(s, wordRow, r.Rows, func(x api.Row) []int { return append([]int{x.Press}, x.Degrees...) })
	s.end()
	return s
}

func cardOf(t api.Test) *sheet {
	s := &sheet{}
	log := sourceOf(t.Run, t.Rules)
	numbers := []int{t.Id, log.id, log.sum, t.Clock.Lo, t.Clock.Hi, t.End}
	s.add(wordTest, append(numbers, t.Limits[:]...)...)
	addEach(s, wordNote, t.Notes, func(n api.Note) []int {
		return []int{n.At, int(n.Kind), n.Value, n.Off.Lo, n.Off.Hi}
	})
	s.end()
	return s
}

func certOf(c api.Cert) *sheet {
	s := &sheet{}
	s.add(wordCert, c.Id, c.Test, int(c.Letter), c.Minutes, c.Day)
	addEach(s, wordRest, c.Rests, func(id int) []int { return []int{id} })
	s.end()
	return s
}
