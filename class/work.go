package class

import (
	"iter"

	"cottonpad/api"
)

// What a note may show of its criterion.
const (
	showsHeld   = 0
	showsFailed = 1
)

// sight is something that some note shows of a criterion.
type sight struct{ criterion, shows uint8 }

// work is a test at work, all of whose numbers are valid: what was seen of its criteria, each with the seconds by the clock in which it was seen first and last.
type work struct {
	api.Test
	seen map[sight]api.Span
}

// view tells whether a note shows something, by the limit of its criterion.
type view struct {
	shows func(n api.Note, limit int) bool
}

// views returns how all that a note may show is told.
func views() [2]view {
	return [2]view{
		showsHeld:   {func(n api.Note, limit int) bool { return n.Value-n.Off.Lo <= limit }},
		showsFailed: {func(n api.Note, limit int) bool { return n.Value-n.Off.Hi > limit }},
	}
}

func atWork(t api.Test) work {
	w := work{Test: t, seen: map[sight]api.Span{}}
	for i := range uint8(api.Criteria) {
		for n := range w.notesOf(i + 1) {
			w.see(n)
		}
	}
	return w
}

// notesOf yields the notes of a criterion, in order.
func (w *work) notesOf(criterion uint8) iter.Seq[api.Note] {
	return func(yield func(api.Note) bool) {
		for _, n := range w.Notes {
			if n.Kind == criterion && !yield(n) {
				return
			}
		}
	}
}

// see keeps what a note shows. No note is earlier than the one before.
func (w *work) see(n api.Note) {
	for i, v := range views() {
		if !v.shows(n, w.Limits[n.Kind-1]) {
			continue
		}
		key := sight{criterion: n.Kind, shows: uint8(i)}
		at, known := w.seen[key]
		if !known {
			at.Lo = n.At
		}
		at.Hi = n.At
		w.seen[key] = at
	}
}

// twisted returns whether a note shows that a criterion holds which had failed by then.
func (w *work) twisted() bool {
	twist := false
criteria:
	for i := range uint8(api.Criteria) {
		failed, known := w.seen[sight{criterion: i + 1, shows: showsFailed}]
		for n := range w.notesOf(i + 1) {
			if known && failed.Lo <= n.At && views()[showsHeld].shows(n, w.Limits[i]) {
				twist = true
				break criteria
			}
		}
	}
	return twist
}

// failure returns when a criterion fails.
func (w *work) failure(criterion uint8) failure {
	byClock := api.Span{Lo: 0, Hi: w.End}
	if held, known := w.seen[sight{criterion: criterion, shows: showsHeld}]; known {
		byClock.Lo = held.Hi + 1
	}
	failed, sure := w.seen[sight{criterion: criterion, shows: showsFailed}]
	if sure {
		byClock.Hi = failed.Lo
	}
	if byClock.Lo > byClock.Hi {
		return lasting{}
	}
	return failing{at: w.truly(byClock), sure: sure}
}

// failureOf returns when a letter fails.
func (w *work) failureOf(letter uint8) failure {
	var all []failure
	for _, criterion := range criteriaOf(letter) {
		all = append(all, w.failure(criterion))
	}
	return firstOf(all...)
}

// truly returns the true seconds that some seconds by the clock may be.
func (w *work) truly(byClock api.Span) api.Span {
	return api.Span{Lo: byClock.Lo - w.Clock.Hi, Hi: byClock.Hi - w.Clock.Lo}
}

// criteriaOf returns the criteria of a letter: those of the letters until this one, each of which adds two.
func criteriaOf(letter uint8) []uint8 {
	var list []uint8
	for i := range letter {
		list = append(list, 2*i+1, 2*i+2)
	}
	return list
}
