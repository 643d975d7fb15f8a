// Package label: how secret something is: see doc/01-label.md.
package label

import (
	"math/bits"

	"withy/api"
)

// Check answers ErrArg, if l is no label.
func Check(l api.Label) api.Errno {
	if l.Level < 0 || l.Level > api.MaxLevel || !isCats(l.Cats) {
		return api.ErrArg
	}
	return api.OK
}

// Below tells whether a is at most as secret as b, in its level and in each kind.
func Below(a, b api.Label) (bool, api.Errno) {
	if e := checkBoth(a, b); e != api.OK {
		return false, e
	}
	return a.Level <= b.Level && a.Cats&^b.Cats == 0, api.OK
}

// Join answers the least label that a and b are both below.
func Join(a, b api.Label) (api.Label, api.Errno) {
	if e := checkBoth(a, b); e != api.OK {
		return api.Label{}, e
	}
	return api.Label{Level: max(a.Level, b.Level), Cats: a.Cats | b.Cats}, api.OK
}

// Meet answers the greatest label that is below both a and b.
func Meet(a, b api.Label) (api.Label, api.Errno) {
	if e := checkBoth(a, b); e != api.OK {
		return api.Label{}, e
	}
	return api.Label{Level: min(a.Level, b.Level), Cats: a.Cats & b.Cats}, api.OK
}

// Count answers how many labels are below l, itself among them.
func Count(l api.Label) (int, api.Errno) {
	if e := Check(l); e != api.OK {
		return 0, e
	}
	// Each level up to its own goes with each choice among its kinds.
	return (l.Level + 1) << bits.OnesCount(uint(l.Cats)), api.OK
}

// Rank answers the level of l and how many kinds it has, together.
func Rank(l api.Label) (int, api.Errno) {
	if e := Check(l); e != api.OK {
		return 0, e
	}
	return l.Level + bits.OnesCount(uint(l.Cats)), api.OK
}

// isCats tells whether n tells some of the kinds; that may be no kind at all (0).
func isCats(n int) bool {
	return n >= 0 && n < 1<<api.MaxCats
}

func checkBoth(a, b api.Label) api.Errno {
	if e := Check(a); e != api.OK {
		return e
	}
	return Check(b)
}
