package power

import (
	"domino/api"
	"domino/integer"
	"domino/modular"
	"domino/natural"
)

// Product returns the product of the powers of bases with the exponents in exps.
func Product(g api.Group, bases []api.Nat, exps []api.Int) (api.Nat, api.Errno) {
	for _, e := range exps {
		if !integer.Valid(e) {
			return "", api.ErrForm
		}
	}
	if err := check(g, bases...); err != api.OK {
		return "", err
	}
	if len(bases) != len(exps) {
		return "", api.ErrMany
	}
	var factors, exponents []api.Nat
	for i, x := range bases {
		if !isElement(g, x) {
			return "", api.ErrGroup
		}
		factor, exponent := withoutSign(g, x, exps[i])
		factors, exponents = append(factors, factor), append(exponents, exponent)
	}
	return product(g.Modulus, factors, exponents), api.OK
}

// product returns the product of the powers of factors with as many exponents, modulo a number greater than 1.
func product(modulus api.Nat, factors, exponents []api.Nat) api.Nat {
	result := natural.Of(1)
	multiply := func(x api.Nat) {
		result, _ = modular.Mul(result, x, modulus)
	}
	digits := 0
	for _, e := range exponents {
		digits = max(digits, natural.Bits(e))
	}
	for i := range digits {
		multiply(result)
		for j, e := range exponents {
			if natural.Bit(e, digits-1-i) {
				multiply(factors[j])
			}
		}
	}
	return result
}
