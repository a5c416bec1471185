package integer

import (
	"domino/api"
	"domino/natural"
)

// DivMod returns the quotient and the remainder of the Euclidean division.
func DivMod(a, b api.Int) (api.Int, api.Nat, api.Errno) {
	if !Valid(a) || !Valid(b) {
		return api.Int{}, "", api.ErrForm
	}
	if b.Abs == "" {
		return api.Int{}, "", api.ErrZero
	}
	// A negative number that is not a multiple of b takes one step more, as its remainder is not negative either.
	correct := func(q, r api.Nat) (api.Nat, api.Nat) {
		if a.Neg && r != "" {
			q, _ = natural.Add(q, natural.Of(1))
			r, _ = natural.Sub(b.Abs, r)
		}
		return q, r
	}
	q, r, _ := natural.DivMod(a.Abs, b.Abs)
	q, r = correct(q, r)
	return signed(a.Neg != b.Neg, q), r, api.OK
}

// Mod returns the remainder of the Euclidean division of a by m.
func Mod(a api.Int, m api.Nat) (api.Nat, api.Errno) {
	if !natural.Valid(m) { // From would make it valid
		return "", api.ErrForm
	}
	_, r, err := DivMod(a, From(m))
	return r, err
}

// Divide returns the quotient of a and b if b divides a.
func Divide(a, b api.Int) (api.Int, api.Errno) {
	q, r, err := DivMod(a, b)
	if err != api.OK {
		return api.Int{}, err
	}
	if r != "" {
		return api.Int{}, api.ErrArg
	}
	return q, api.OK
}

// Extended returns the greatest common divisor g of a and b, and coefficients x and y with a x + b y = g.
func Extended(a, b api.Nat) (api.Nat, api.Int, api.Int, api.Errno) {
	if !natural.Valid(a) || !natural.Valid(b) {
		return "", api.Int{}, api.Int{}, api.ErrForm
	}
	// Each remainder is a x + b y for the x and y at its index. As the signs of each coefficient alternate, its magnitudes grow up to b / g or a / g in the end, and neither they nor the products in between are too long.
	r := [2]api.Nat{a, b}
	x := [2]api.Int{Of(1), Of(0)}
	y := [2]api.Int{Of(0), Of(1)}
	for r[1] != "" {
		q, rest, _ := natural.DivMod(r[0], r[1])
		r = [2]api.Nat{r[1], rest}
		x = step(x, q)
		y = step(y, q)
	}
	if x[0].Neg {
		// a x + b y is 0 for the second coefficients, whose x is b / g: signs alternate.
		x[0], _ = Add(x[0], x[1])
		y[0], _ = Add(y[0], y[1])
	}
	return r[0], x[0], y[0], api.OK
}

// step returns the second one of a pair of coefficients, and the first one minus q times the second one.
func step(pair [2]api.Int, q api.Nat) [2]api.Int {
	product, _ := Mul(From(q), pair[1])
	next, _ := Sub(pair[0], product)
	return [2]api.Int{pair[1], next}
}
