package natural

import "domino/api"

// Products, quotients and texts are calculated with digits to the base 2^32, the least significant digit first.

// width is the number of digits of the longest canonical numbers.
const width = api.MaxBytes / 4

// load returns the digits of a canonical number; the last one is not 0.
func load(a api.Nat) []uint32 {
	d := make([]uint32, (len(a)+3)/4)
	for i := range len(a) {
		d[i/4] |= uint32(byteAt(a, i)) << (8 * (i % 4))
	}
	return d
}

// store returns the number with these digits, or ErrLong.
func store(d []uint32) (api.Nat, api.Errno) {
	b := make([]byte, 4*len(d))
	for i := range len(b) {
		b[len(b)-1-i] = byte(d[i/4] >> (8 * (i % 4)))
	}
	a := strip(b)
	if len(a) > api.MaxBytes {
		return "", api.ErrLong
	}
	return a, api.OK
}

// trim returns digits without the zeros at their end.
func trim(d []uint32) []uint32 {
	for len(d) > 0 && d[len(d)-1] == 0 {
		d = d[:len(d)-1]
	}
	return d
}
