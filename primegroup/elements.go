package primegroup

import (
	"iter"

	"domino/api"
	"domino/modular"
	"domino/natural"
)

// limit is the greatest number of elements that are yielded, and the greatest logarithm that is found.
const limit = 65536

// Elements yields the powers of base, each one once, and at most 65536 of them.
func Elements(g api.Group, base api.Nat) iter.Seq[api.Nat] {
	return func(yield func(api.Nat) bool) {
		if !Has(g, base) {
			return
		}
		for k, power := range powers(g, base) {
			if k == limit || !yield(power) {
				return
			}
		}
	}
}

// Log returns the least k from 0 to most for which base^k is x.
func Log(g api.Group, base, x api.Nat, most int) (int, bool) {
	if !Has(g, base) || !Has(g, x) {
		return 0, false
	}
	for k, power := range powers(g, base) {
		if k > min(most, limit) {
			break
		}
		if power == x {
			return k, true
		}
	}
	return 0, false
}

// powers yields 1, base, base^2, .. with their exponents until 1 would come again; base is an element.
func powers(g api.Group, base api.Nat) iter.Seq2[int, api.Nat] {
	return func(yield func(int, api.Nat) bool) {
		one := natural.Of(1)
		power := one
		for k := 0; yield(k, power); k++ {
			if power, _ = modular.Mul(power, base, g.Modulus); power == one {
				return
			}
		}
	}
}
