package certificate

import (
	"domino/api"
	"domino/modular"
	"domino/natural"
)

// wellFormed reports whether there are steps, and all of them are well-formed.
func wellFormed(steps []api.Step) bool {
	for i, s := range steps {
		if !stepFormed(s, i) {
			return false
		}
	}
	return len(steps) > 0
}

// stepFormed reports whether a step behind the given number of earlier ones is well-formed.
func stepFormed(s api.Step, earlier int) bool {
	two := natural.Of(2)
	if !natural.Valid(s.Prime) || natural.Cmp(s.Prime, two) < 0 {
		return false
	}
	if len(s.Factors) == 0 {
		return s.Base == ""
	}
	last := -1
	for _, i := range s.Factors {
		if i <= last || i >= earlier {
			return false
		}
		last = i
	}
	return natural.Valid(s.Base) && natural.Cmp(s.Base, two) >= 0 && natural.Cmp(s.Base, s.Prime) < 0
}

// primesOf returns the primes of the steps with these indices.
func primesOf(steps []api.Step, indices []int) []api.Nat {
	list := make([]api.Nat, len(indices))
	for k, i := range indices {
		list[k] = steps[i].Prime
	}
	return list
}

// correct reports whether a well-formed step is correct; factors are the primes of the steps in its Factors.
func correct(p, base api.Nat, factors []api.Nat) bool {
	if len(factors) == 0 {
		return isSmallPrime(p)
	}
	last := predecessor(p)
	rest := last
	for _, f := range factors {
		if _, r, _ := natural.DivMod(last, f); r != "" {
			return false
		}
		rest = without(rest, f)
	}
	if !suffices(p, rest) {
		return false
	}
	if power, _ := modular.Exp(base, last, p); power != natural.Of(1) {
		return false
	}
	for _, f := range factors {
		if common(p, base, f) != natural.Of(1) {
			return false
		}
	}
	return true
}

// predecessor returns p - 1 for a number that is not 0.
func predecessor(p api.Nat) api.Nat {
	last, _ := natural.Sub(p, natural.Of(1))
	return last
}

// without returns n, which is not 0, divided by f, which is at least 2, as often as possible.
func without(n, f api.Nat) api.Nat {
	for {
		q, r, _ := natural.DivMod(n, f)
		if r != "" {
			return n
		}
		n = q
	}
}

// suffices reports whether the square of (p - 1) / rest is greater than p.
func suffices(p, rest api.Nat) bool {
	part, _, _ := natural.DivMod(predecessor(p), rest)
	// The square may be too long for package natural, so part is compared with the root.
	root, _ := natural.Sqrt(p)
	return natural.Cmp(part, root) > 0
}

// common returns the greatest common divisor of base^((p-1)/f) - 1 and p, where the power is its remainder modulo p, and p itself if that is 0.
func common(p, base, f api.Nat) api.Nat {
	exponent, _, _ := natural.DivMod(predecessor(p), f)
	power, _ := modular.Exp(base, exponent, p)
	// If the power is 0, Sub returns 0, of which p is a divisor too.
	difference, _ := natural.Sub(power, natural.Of(1))
	g, _ := natural.Gcd(difference, p)
	return g
}
