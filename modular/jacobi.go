package modular

import (
	"domino/api"
	"domino/natural"
)

// Jacobi returns the Jacobi symbol (a/n).
func Jacobi(a, n api.Nat) (int, api.Errno) {
	if err := check(n, a); err != api.OK {
		return 0, err
	}
	if !natural.Bit(n, 0) {
		return 0, api.ErrArg
	}
	symbol := 1
	a = remainder(a, n)
	for a != "" {
		for !natural.Bit(a, 0) {
			a, _, _ = natural.DivMod(a, natural.Of(2))
			if natural.Bit(n, 1) != natural.Bit(n, 2) { // (2/n) is -1 if n modulo 8 is 3 or 5
				symbol = -symbol
			}
		}
		if natural.Bit(a, 1) && natural.Bit(n, 1) { // by reciprocity, as both are 3 modulo 4
			symbol = -symbol
		}
		a, n = remainder(n, a), a
	}
	if n != natural.Of(1) {
		return 0, api.OK
	}
	return symbol, api.OK
}
