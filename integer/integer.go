// Package integer implements layer 2: integers, which are natural numbers with a sign.
package integer

import (
	"domino/api"
	"domino/natural"
)

// Of returns the integer n.
func Of(n int64) api.Int {
	if n < 0 {
		// The conversion makes this right for -2^63 too, which is its own negative.
		return api.Int{Neg: true, Abs: natural.Of(uint64(-n))}
	}
	return api.Int{Abs: natural.Of(uint64(n))}
}

// Small returns a as an int64, if it is one.
func Small(a api.Int) (int64, bool) {
	const limit = 1 << 63
	n, ok := natural.Small(a.Abs)
	switch {
	case !ok || !Valid(a):
		return 0, false
	case a.Neg && n <= limit:
		return -int64(n), true // int64(limit) is -2^63, and so is its negative
	case !a.Neg && n < limit:
		return int64(n), true
	}
	return 0, false
}

// Valid reports whether a is canonical, and not a negative 0.
func Valid(a api.Int) bool {
	return natural.Valid(a.Abs) && !(a.Neg && a.Abs == "")
}

// From returns the integer a that is not negative.
func From(a api.Nat) api.Int {
	if !natural.Valid(a) {
		return api.Int{}
	}
	return api.Int{Abs: a}
}

// Cmp returns -1 if a < b, 0 if a = b and 1 if a > b.
func Cmp(a, b api.Int) int {
	switch {
	case !Valid(a) || !Valid(b):
		return 0
	case a.Neg && b.Neg:
		return natural.Cmp(b.Abs, a.Abs)
	case a.Neg:
		return -1
	case b.Neg:
		return 1
	}
	return natural.Cmp(a.Abs, b.Abs)
}

// Neg returns -a.
func Neg(a api.Int) api.Int {
	if !Valid(a) {
		return api.Int{}
	}
	return signed(!a.Neg, a.Abs)
}

// signed returns the integer with a sign and a canonical magnitude; 0 has no sign.
func signed(negative bool, magnitude api.Nat) api.Int {
	return api.Int{Neg: negative && magnitude != "", Abs: magnitude}
}
