package natural

import (
	"math/bits"

	"domino/api"
)

// DivMod returns the quotient, rounded down, and the remainder of a and b.
func DivMod(a, b api.Nat) (api.Nat, api.Nat, api.Errno) {
	if !Valid(a) || !Valid(b) {
		return "", "", api.ErrForm
	}
	if b == "" {
		return "", "", api.ErrZero
	}
	q, r := divide(load(a), load(b))
	// Neither is longer than a or b.
	quotient, _ := store(q)
	remainder, _ := store(r)
	return quotient, remainder, api.OK
}

// divide returns the quotient and the remainder of u and v, whose last digits are not 0; v is not 0.
func divide(u, v []uint32) ([]uint32, []uint32) {
	if len(u) < len(v) {
		return nil, u
	}
	if len(v) == 1 {
		q := make([]uint32, len(u))
		copy(q, u)
		r := divideByDigit(q, v[0])
		return trim(q), trim([]uint32{r})
	}
	return divideLong(u, v)
}

// divideByDigit replaces d by its quotient by a digit that is not 0, and returns the remainder.
func divideByDigit(d []uint32, digit uint32) uint32 {
	r := uint64(0)
	for i := range len(d) {
		j := len(d) - 1 - i
		r = r<<32 | uint64(d[j])
		d[j] = uint32(r / uint64(digit))
		r %= uint64(digit)
	}
	return uint32(r)
}

// divideLong divides as one does on paper, by a divisor of at least two digits and at most as many as u has.
func divideLong(u, v []uint32) ([]uint32, []uint32) {
	// With a divisor whose highest bit is 1 the guess of a digit is at most 2 too large.
	shift := bits.LeadingZeros32(v[len(v)-1])
	divisor := shiftLeft(v, shift)[:len(v)]
	rest := shiftLeft(u, shift)
	q := make([]uint32, len(u)-len(v)+1)
	for i := range len(q) {
		j := len(q) - 1 - i
		part := rest[j : j+len(v)+1]
		digit := guess(part, divisor)
		if subtractRow(part, divisor, digit) {
			digit--
			addBack(part, divisor)
		}
		q[j] = digit
	}
	return trim(q), trim(shiftRight(rest, shift))
}

// shiftLeft returns d times 2^shift, with one digit more, for a shift of less than 32 bits.
func shiftLeft(d []uint32, shift int) []uint32 {
	shifted := make([]uint32, len(d)+1)
	for i := range len(d) {
		t := uint64(d[i]) << shift
		shifted[i] |= uint32(t)
		shifted[i+1] = uint32(t >> 32)
	}
	return shifted
}

// shiftRight returns d divided by 2^shift, for a shift of less than 32 bits.
func shiftRight(d []uint32, shift int) []uint32 {
	shifted := make([]uint32, len(d))
	for i := range len(d) {
		t := uint64(d[i])
		if i+1 < len(d) {
			t |= uint64(d[i+1]) << 32
		}
		shifted[i] = uint32(t >> shift)
	}
	return shifted
}

// guess returns the quotient of part and divisor, or that plus 1; part has one digit more than divisor and is less than divisor times 2^32.
func guess(part, divisor []uint32) uint32 {
	n := len(divisor)
	first, second := uint64(divisor[n-1]), uint64(divisor[n-2])
	top := uint64(part[n])<<32 | uint64(part[n-1])
	q, r := top/first, top%first
	for q>>32 != 0 || q*second > r<<32|uint64(part[n-2]) {
		q--
		r += first
		if r>>32 != 0 {
			break
		}
	}
	return uint32(q)
}

// subtractRow subtracts the product of divisor and a digit from part, and reports whether part would be negative.
func subtractRow(part, divisor []uint32, digit uint32) bool {
	carry, borrow := uint64(0), uint32(0)
	for i := range len(divisor) {
		carry += uint64(digit) * uint64(divisor[i])
		part[i], borrow = bits.Sub32(part[i], uint32(carry), borrow)
		carry >>= 32
	}
	last := len(divisor)
	part[last], borrow = bits.Sub32(part[last], uint32(carry), borrow)
	return borrow != 0
}

// addBack adds divisor to part, without the last carry, which cancels the borrow of subtractRow.
func addBack(part, divisor []uint32) {
	carry := uint32(0)
	for i := range len(divisor) {
		part[i], carry = bits.Add32(part[i], divisor[i], carry)
	}
	part[len(divisor)] += carry
}
