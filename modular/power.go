package modular

import (
	"iter"

	"domino/api"
	"domino/integer"
	"domino/natural"
)

// Exp returns the remainder of a^e modulo m.
func Exp(a, e, m api.Nat) (api.Nat, api.Errno) {
	if err := check(m, a, e); err != api.OK {
		return "", err
	}
	base := load(remainder(a, m))
	return remainder(store(raise(base, e, multiplication(m))), m), api.OK
}

// Power returns the remainder of a^e modulo m for an integer e.
func Power(a api.Nat, e api.Int, m api.Nat) (api.Nat, api.Errno) {
	if !integer.Valid(e) {
		return "", api.ErrForm
	}
	if e.Neg {
		inverse, err := Inverse(a, m)
		if err != api.OK {
			return "", err
		}
		a = inverse
	}
	return Exp(a, e.Abs, m)
}

// Inverse returns the inverse of a modulo m.
func Inverse(a, m api.Nat) (api.Nat, api.Errno) {
	if err := check(m, a); err != api.OK {
		return "", err
	}
	// The coefficient x of a is from 0 to m - 1 if the greatest common divisor is 1.
	g, x, _, _ := integer.Extended(remainder(a, m), m)
	if g != natural.Of(1) {
		return "", api.ErrNone
	}
	return x.Abs, api.OK
}

// raise returns the power a^e of a multiplication.
func raise(a []uint64, e api.Nat, multiply func(a, b []uint64) []uint64) []uint64 {
	power := []uint64{1}
	for one := range digits(e) {
		power = multiply(power, power)
		if one {
			power = multiply(power, a)
		}
	}
	return power
}

// digits yields for each binary digit of e, the most significant one first, whether it is 1.
func digits(e api.Nat) iter.Seq[bool] {
	return func(yield func(bool) bool) {
		n := natural.Bits(e)
		for i := range n {
			if !yield(natural.Bit(e, n-1-i)) {
				return
			}
		}
	}
}
