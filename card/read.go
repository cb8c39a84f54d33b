package card

import (
	"slices"

	"cottonpad/api"
)

// wrongLine is the number of a line that is wrong: a panic with it ends the reading of a text.
type wrongLine int

// wrongLast is the number of a last line whose numbers are not what they have to be: a panic with it does likewise.
type wrongLast int

// reading is a text that is read, under the seal of its lines until now: the number of the latest one, the parts that it has, the first one of them to which the next line may belong, and the seal that its last line tells.
type reading struct {
	seal
	number int
	parts  []part
	at     int
	told   seal
}

// read reads a text, which consists of parts and a last line, or returns what is wrong, and in which line.
func read(text string, parts []part) (line int, e api.Errno) {
	defer func() {
		switch wrong := recover().(type) {
		case wrongLine:
			line, e = int(wrong), api.ErrWrong
		case wrongLast:
			line, e = int(wrong), api.ErrLast
		}
	}()
	if len(text) > api.MaxFile {
		return 0, api.ErrFull
	}
	x := &reading{}
	x.parts = append(slices.Clone(parts), x.lastPart())
	x.takeAll(text)
	return 0, api.OK
}

func (x *reading) lastPart() part {
	return part{word: wordEnd, fits: count(2), take: func(n []int) { x.told = seal{lines: n[0], sum: n[1]} }}
}

// ended returns whether the last line was read.
func (x *reading) ended() bool { return x.at == len(x.parts) }

func (x *reading) takeAll(text string) {
	for line := range lines(text) {
		x.number++
		x.take(line)
	}
	if !x.ended() {
		panic(wrongLine(x.number + 1))
	}
	if x.told != x.seal {
		panic(wrongLast(x.number))
	}
}

// take reads the next line.
func (x *reading) take(line string) {
	p, isRight := parsed(line)
	if !isRight {
		panic(wrongLine(x.number))
	}
	of := x.partWith(p.word)
	if !of.fits(p.numbers) {
		panic(wrongLine(x.number))
	}
	of.take(p.numbers)
	// The last line is not under the seal that it tells.
	if !x.ended() {
		x.goOn(p.check)
	}
}

// partWith returns the part of the next line, by its word.
func (x *reading) partWith(word string) part {
	// Of some parts there need not be a line.
	for !x.ended() && x.parts[x.at].many && x.parts[x.at].word != word {
		x.at++
	}
	if x.ended() || x.parts[x.at].word != word {
		panic(wrongLine(x.number))
	}
	p := x.parts[x.at]
	if !p.many {
		x.at++
	}
	return p
}
