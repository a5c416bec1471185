// Package natural implements layer 1: natural numbers as big-endian byte strings without leading zero bytes.
package natural

import (
	"math/bits"
	"strings"

	"domino/api"
)

// Of returns the string of a number.
func Of(n uint64) api.Nat {
	var b [8]byte
	for i := range len(b) {
		b[len(b)-1-i] = byte(n >> (8 * i))
	}
	return strip(b[:])
}

// Small returns the number of a canonical string of at most 8 bytes.
func Small(a api.Nat) (uint64, bool) {
	if !Valid(a) || len(a) > 8 {
		return 0, false
	}
	n := uint64(0)
	for i := range len(a) {
		n = n<<8 | uint64(a[i])
	}
	return n, true
}

// Valid reports whether a string is canonical.
func Valid(a api.Nat) bool {
	return len(a) <= api.MaxBytes && (a == "" || a[0] != 0)
}

// Cmp returns -1, 0 or 1 if a is less than, equal to, or greater than b, and 0 if one of them is not canonical.
func Cmp(a, b api.Nat) int {
	switch {
	case !Valid(a) || !Valid(b):
		return 0
	case len(a) < len(b):
		return -1
	case len(a) > len(b):
		return 1
	}
	// Strings of the same length are ordered as their first different bytes, as the numbers are.
	return strings.Compare(string(a), string(b))
}

// Bits returns the number of binary digits of a.
func Bits(a api.Nat) int {
	if a == "" || !Valid(a) {
		return 0
	}
	return 8*(len(a)-1) + bits.Len8(a[0])
}

// Bit reports whether the binary digit of a with the weight 2^i is 1.
func Bit(a api.Nat, i int) bool {
	if i < 0 || !Valid(a) {
		return false
	}
	return byteAt(a, i/8)>>(i%8)&1 == 1
}

// byteAt returns the byte of a with the weight 256^i, which is 0 beyond the first byte of a.
func byteAt(a api.Nat, i int) byte {
	if i >= len(a) {
		return 0
	}
	return a[len(a)-1-i]
}

// strip returns big-endian bytes without the leading zero bytes.
func strip(b []byte) api.Nat {
	for len(b) > 0 && b[0] == 0 {
		b = b[1:]
	}
	return api.Nat(b)
}
