package integer

import (
	"domino/api"
	"domino/natural"
)

// Add returns the sum of a and b.
func Add(a, b api.Int) (api.Int, api.Errno) {
	if !Valid(a) || !Valid(b) {
		return api.Int{}, api.ErrForm
	}
	if a.Neg == b.Neg {
		sum, err := natural.Add(a.Abs, b.Abs)
		if err != api.OK {
			return api.Int{}, err
		}
		return signed(a.Neg, sum), api.OK
	}
	if natural.Cmp(a.Abs, b.Abs) < 0 {
		a, b = b, a
	}
	// The larger magnitude decides the sign.
	difference, _ := natural.Sub(a.Abs, b.Abs)
	return signed(a.Neg, difference), api.OK
}

// Sub returns a - b.
func Sub(a, b api.Int) (api.Int, api.Errno) {
	if !Valid(b) { // Neg would make it valid
		return api.Int{}, api.ErrForm
	}
	return Add(a, Neg(b))
}

// Mul returns the product of a and b.
func Mul(a, b api.Int) (api.Int, api.Errno) {
	if !Valid(a) || !Valid(b) {
		return api.Int{}, api.ErrForm
	}
	product, err := natural.Mul(a.Abs, b.Abs)
	if err != api.OK {
		return api.Int{}, err
	}
	return signed(a.Neg != b.Neg, product), api.OK
}
