package params

import (
	"domino/api"
	"domino/natural"
	"domino/primegroup"
	"domino/rsagroup"
)

// Check returns OK for valid parameters.
func Check(p api.Params) api.Errno {
	switch {
	case !canonical(p):
		return api.ErrForm
	case !hasGroups(p):
		return api.ErrGroup
	case !hasBounds(p):
		return api.ErrRange
	}
	return api.OK
}

// Sizes returns the bounds of the exponents of randomized signatures and of randomized witnesses.
func Sizes(p api.Params) (api.Nat, api.Nat, api.Errno) {
	if err := Check(p); err != api.OK {
		return "", "", err
	}
	err := api.OK
	// No number is less than a part of it, as Mask is not 0: if a part is too long, so is the result.
	note := func(x api.Nat, e api.Errno) api.Nat {
		if e != api.OK {
			err = e
		}
		return x
	}
	blinds := note(natural.Add(p.Blind, p.Blind))
	exponents := note(natural.Add(p.ExpLow, p.ExpSize))
	signatures := note(natural.Add(blinds, note(natural.Mul(exponents, p.Mask))))
	witnesses := note(natural.Mul(p.Handle, p.Mask))
	if err != api.OK {
		return "", "", err
	}
	return signatures, witnesses, api.OK
}

// canonical reports whether all numbers of parameters are canonical.
func canonical(p api.Params) bool {
	for _, x := range []api.Nat{
		p.Rule.Challenges, p.Rule.Slack,
		p.Main.Group.Modulus, p.Main.Group.Order, p.Main.G, p.Main.H,
		p.Whole.Group.Modulus, p.Whole.Group.Order, p.Whole.G, p.Whole.H,
		p.Secret, p.Attr, p.Handle, p.ExpLow, p.ExpSize, p.Blind, p.Mask,
	} {
		if !natural.Valid(x) {
			return false
		}
	}
	return true
}

// hasGroups reports whether the groups of parameters with canonical numbers are valid, with bases other than 1.
func hasGroups(p api.Params) bool {
	return primegroup.Check(p.Main.Group) == api.OK &&
		primegroup.IsGenerator(p.Main.Group, p.Main.G) && primegroup.IsGenerator(p.Main.Group, p.Main.H) &&
		isBase(p.Whole.Group, p.Whole.G) && isBase(p.Whole.Group, p.Whole.H)
}

// isBase reports whether g is a group of unknown order and x one of its elements other than 1.
func isBase(g api.Group, x api.Nat) bool {
	return x != natural.Of(1) && rsagroup.Has(g, x)
}

// hasBounds reports whether the bounds of parameters with valid groups are in their ranges.
func hasBounds(p api.Params) bool {
	q := p.Main.Group.Order
	// 8 Attr <= q without a product that may be too long.
	eighth, _, _ := natural.DivMod(q, natural.Of(8))
	for _, x := range []api.Nat{p.Rule.Challenges, p.Rule.Slack, p.Secret, p.Attr, p.Handle, p.ExpLow, p.ExpSize, p.Blind, p.Mask} {
		if natural.Cmp(x, natural.Of(2)) < 0 {
			return false
		}
	}
	return natural.Cmp(p.Rule.Challenges, q) <= 0 && natural.Cmp(p.Secret, q) <= 0 && natural.Cmp(p.Attr, eighth) <= 0
}
