package modular

import (
	"math"
	"math/bits"
	"strings"

	"domino/api"
)

// Products are longer than the numbers of package natural. They are calculated with words of 64 bits, the least significant word first.

// load returns the words of a canonical number; the last one is not 0.
func load(a api.Nat) []uint64 {
	w := make([]uint64, (len(a)+7)/8)
	for i := range len(a) {
		w[i/8] |= uint64(a[len(a)-1-i]) << (8 * (i % 8))
	}
	return w
}

// store returns the number with these words.
func store(w []uint64) api.Nat {
	b := make([]byte, 8*len(w))
	for i := range len(b) {
		b[len(b)-1-i] = byte(w[i/8] >> (8 * (i % 8)))
	}
	return api.Nat(strings.TrimLeft(string(b), "\x00"))
}

// multiplication returns a function that multiplies modulo m: its results are congruent to the product, and have at most as many words as m.
func multiplication(m api.Nat) func(a, b []uint64) []uint64 {
	// A remainder modulo a multiple of m is congruent modulo m too, and a divisor whose highest bit is 1 makes division simple.
	multiple := shiftFully(load(m))
	return func(a, b []uint64) []uint64 {
		return reduce(product(a, b), multiple)
	}
}

// shiftFully returns w, whose last word is not 0, times the power of 2 that makes the highest bit 1.
func shiftFully(w []uint64) []uint64 {
	shift := bits.LeadingZeros64(w[len(w)-1])
	shifted := make([]uint64, len(w))
	low := uint64(0)
	for i, d := range w {
		shifted[i] = d<<shift | low
		low = d >> (64 - shift)
	}
	return shifted
}

// product returns the product of a and b, and one word 0 more.
func product(a, b []uint64) []uint64 {
	p := make([]uint64, len(a)+len(b)+1)
	for i, d := range a {
		carry := uint64(0)
		for j, e := range b {
			high, low := bits.Mul64(d, e)
			sum, c := bits.Add64(p[i+j], low, 0)
			high += c
			p[i+j], c = bits.Add64(sum, carry, 0)
			carry = high + c
		}
		p[i+len(b)] = carry
	}
	return p
}

// reduce returns the remainder of u modulo m, in the memory of u; the last word of u is 0, and the highest bit of m is 1.
func reduce(u, m []uint64) []uint64 {
	for len(u) > len(m) {
		part := u[len(u)-len(m)-1:]
		borrow := subtractRow(part, m, guess(part, m))
		for borrow != 0 {
			borrow -= addRow(part, m)
		}
		u = u[:len(u)-1] // the last word of part is 0 now
	}
	return u
}

// guess returns the quotient of part and m, or at most 2 more; part has one word more than m and is less than m times 2^64.
func guess(part, m []uint64) uint64 {
	high, first := part[len(m)], m[len(m)-1]
	if high >= first {
		return math.MaxUint64
	}
	q, _ := bits.Div64(high, part[len(m)-1], first)
	return q
}

// subtractRow subtracts the product of m and a word from part, and returns 1 if part would be negative, and otherwise 0.
func subtractRow(part, m []uint64, word uint64) uint64 {
	carry, borrow := uint64(0), uint64(0)
	for i, d := range m {
		high, low := bits.Mul64(d, word)
		low, c := bits.Add64(low, carry, 0)
		carry = high + c
		part[i], borrow = bits.Sub64(part[i], low, borrow)
	}
	last := len(m)
	part[last], borrow = bits.Sub64(part[last], carry, borrow)
	return borrow
}

// addRow adds m to part, and returns the carry.
func addRow(part, m []uint64) uint64 {
	carry := uint64(0)
	for i, d := range m {
		part[i], carry = bits.Add64(part[i], d, carry)
	}
	last := len(m)
	part[last], carry = bits.Add64(part[last], 0, carry)
	return carry
}
