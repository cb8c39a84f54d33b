package class

import "cottonpad/api"

// failure is what is known of when something fails, in true seconds.
type failure interface {
	told() api.Fail
	// mayCome returns whether it fails in some truth in a second of at most this one.
	mayCome(second int) bool
	// mustCome returns whether it does so in each truth.
	mustCome(second int) bool
	// or returns the first one of this failure and another one.
	or(other failure) failure
}

// lasting is of what held until the end in each truth.
type lasting struct{}

func (l lasting) told() api.Fail { return api.Fail{Held: api.KnownYes} }

func (l lasting) mayCome(second int) bool { return false }

func (l lasting) mustCome(second int) bool { return false }

func (l lasting) or(other failure) failure { return other }

// failing is of what fails in some truth: in which seconds, and whether it does in each one.
type failing struct {
	at   api.Span
	sure bool
}

func (f failing) told() api.Fail {
	if f.sure {
		return api.Fail{Held: api.KnownNo, At: f.at}
	}
	return api.Fail{Held: api.KnownOpen, At: f.at}
}

func (f failing) mayCome(second int) bool { return f.at.Lo <= second }

func (f failing) mustCome(second int) bool { return f.sure && f.at.Hi <= second }

func (f failing) or(other failure) failure {
	o := other.told()
	if o.Held == api.KnownYes {
		return f
	}
	return failing{
		// What need not fail may do so as late as the test ends, so it never makes the last second of the first one earlier.
		at:   api.Span{Lo: min(f.at.Lo, o.At.Lo), Hi: min(f.at.Hi, o.At.Hi)},
		sure: f.sure || o.Held == api.KnownNo,
	}
}

// firstOf returns the first one of several failures.
func firstOf(all ...failure) failure {
	var first failure = lasting{}
	for _, f := range all {
		first = first.or(f)
	}
	return first
}
