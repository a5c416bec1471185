package natural

import "domino/api"

// Add returns the sum of a and b.
func Add(a, b api.Nat) (api.Nat, api.Errno) {
	if !Valid(a) || !Valid(b) {
		return "", api.ErrForm
	}
	sum := make([]byte, max(len(a), len(b))+1)
	carry := 0
	for i := range len(sum) {
		carry += int(byteAt(a, i)) + int(byteAt(b, i))
		sum[len(sum)-1-i] = byte(carry)
		carry >>= 8
	}
	s := strip(sum)
	if len(s) > api.MaxBytes {
		return "", api.ErrLong
	}
	return s, api.OK
}

// Sub returns a - b.
func Sub(a, b api.Nat) (api.Nat, api.Errno) {
	if !Valid(a) || !Valid(b) {
		return "", api.ErrForm
	}
	if Cmp(a, b) < 0 {
		return "", api.ErrRange
	}
	difference := make([]byte, len(a))
	borrow := 0
	for i := range len(a) {
		borrow += int(byteAt(a, i)) - int(byteAt(b, i))
		difference[len(a)-1-i] = byte(borrow)
		borrow >>= 8 // an arithmetic shift: -1 stays -1
	}
	return strip(difference), api.OK
}
