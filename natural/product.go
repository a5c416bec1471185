package natural

import "domino/api"

// Mul returns the product of a and b.
func Mul(a, b api.Nat) (api.Nat, api.Errno) {
	if !Valid(a) || !Valid(b) {
		return "", api.ErrForm
	}
	x, y := load(a), load(b)
	var columns [2 * width]uint32
	clear(columns[:]) // every product begins with empty columns
	for i := range len(x) {
		addRow(columns[i:], y, x[i])
	}
	return store(columns[:len(x)+len(y)])
}

// addRow adds the product of y and a digit to the columns from the first one on; the column after those of y must be 0.
func addRow(columns, y []uint32, digit uint32) {
	carry := uint64(0)
	for j := range len(y) {
		// This does not overflow: (2^32-1)^2 + 2 (2^32-1) is 2^64-1.
		carry += uint64(columns[j]) + uint64(digit)*uint64(y[j])
		columns[j] = uint32(carry)
		carry >>= 32
	}
	columns[len(y)] = uint32(carry)
}
