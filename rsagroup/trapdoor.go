package rsagroup

import (
	"domino/api"
	"domino/modular"
	"domino/natural"
	"domino/prime"
)

// Check returns OK if g is a group of unknown order and t its trapdoor.
func Check(g api.Group, t api.Trapdoor) api.Errno {
	switch {
	case !canonical(g.Modulus, g.Order, t.P, t.Q):
		return api.ErrForm
	case !isGroup(g):
		return api.ErrGroup
	}
	if product, err := natural.Mul(t.P, t.Q); err != api.OK || product != g.Modulus {
		return api.ErrArg
	}
	return checkPrimes(t)
}

// Order returns the order of the squares.
func Order(t api.Trapdoor) (api.Nat, api.Errno) {
	if !canonical(t.P, t.Q) {
		return "", api.ErrForm
	}
	if err := checkPrimes(t); err != api.OK {
		return "", err
	}
	primes := [2]api.Nat{t.P, t.Q}
	order := natural.Of(1)
	for i := range len(primes) {
		half, _, _ := natural.DivMod(primes[i], natural.Of(2))
		order, _ = natural.Mul(order, half)
	}
	return order, api.OK
}

// IsSquare reports whether the element x is a square.
func IsSquare(g api.Group, t api.Trapdoor, x api.Nat) (bool, api.Errno) {
	if err := checkElement(g, t, x); err != api.OK {
		return false, err
	}
	primes := [2]api.Nat{t.P, t.Q}
	for i := range len(primes) {
		if symbol, _ := modular.Jacobi(x, primes[i]); symbol != 1 {
			return false, api.OK
		}
	}
	return true, api.OK
}

// IsGenerator reports whether the element x is a square that generates the squares.
func IsGenerator(g api.Group, t api.Trapdoor, x api.Nat) (bool, api.Errno) {
	square, err := IsSquare(g, t, x)
	if !square {
		return false, err
	}
	primes := [2]api.Nat{t.P, t.Q}
	for i := range len(primes) {
		// The squares modulo a safe prime have a prime order, so that each of them but 1 generates them all.
		if _, r, _ := natural.DivMod(x, primes[i]); r == natural.Of(1) {
			return false, api.OK
		}
	}
	return true, api.OK
}

// Root returns the only square y with y^e = x.
func Root(g api.Group, t api.Trapdoor, x, e api.Nat) (api.Nat, api.Errno) {
	if !canonical(x, e) {
		return "", api.ErrForm
	}
	square, err := IsSquare(g, t, x)
	switch {
	case err != api.OK:
		return "", err
	case !square:
		return "", api.ErrArg
	}
	order, _ := Order(t)
	inverse, err := modular.Inverse(e, order)
	if err != api.OK {
		return "", err
	}
	return modular.Exp(x, inverse, g.Modulus)
}

// checkPrimes returns the error of a trapdoor whose numbers are canonical.
func checkPrimes(t api.Trapdoor) api.Errno {
	primes := [2]api.Nat{t.P, t.Q}
	allSafe := true
	for i := range len(primes) {
		safe, err := prime.Safe(primes[i])
		if err != api.OK {
			return err
		}
		allSafe = allSafe && safe
	}
	if !allSafe || t.P == t.Q {
		return api.ErrPrime
	}
	return api.OK
}

// checkElement returns the error of a group, its trapdoor, and a number that should be an element.
func checkElement(g api.Group, t api.Trapdoor, x api.Nat) api.Errno {
	if !natural.Valid(x) {
		return api.ErrForm
	}
	if err := Check(g, t); err != api.OK {
		return err
	}
	if !Has(g, x) {
		return api.ErrGroup
	}
	return api.OK
}
