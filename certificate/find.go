package certificate

import (
	"slices"

	"domino/api"
	"domino/natural"
	"domino/prime"
)

// isSmallPrime reports whether a canonical number is a prime below limit.
func isSmallPrime(n api.Nat) bool {
	small, ok := natural.Small(n)
	if !ok || small >= limit {
		return false
	}
	is, _ := prime.Is(n)
	return is
}

// isProbablePrime reports whether a canonical number is at least limit and passes the strong test for the first primes.
func isProbablePrime(n api.Nat) bool {
	if natural.Cmp(n, natural.Of(limit)) < 0 {
		return false
	}
	for _, a := range [12]uint64{2, 3, 5, 7, 11, 13, 17, 19, 23, 29, 31, 37} {
		if strong, _ := prime.Strong(n, natural.Of(a)); !strong {
			return false
		}
	}
	return true
}

// collect returns the steps of the certificate of n, which is a prime below limit or a probable prime; false if there is none.
func collect(n api.Nat) ([]api.Step, bool) {
	var steps []api.Step
	places := map[api.Nat]int{} // the indices of the primes that have a step
	var add func(p api.Nat) bool
	add = func(p api.Nat) bool {
		if _, ok := places[p]; ok {
			return true
		}
		step := api.Step{Prime: p}
		if !isSmallPrime(p) {
			factors, ok := usableFactors(p)
			if !ok {
				return false
			}
			for _, f := range factors {
				if !add(f) {
					return false
				}
				step.Factors = append(step.Factors, places[f])
			}
			slices.Sort(step.Factors) // a factor may have got its step for another number before
			if step.Base, ok = leastBase(p, factors); !ok {
				return false
			}
		}
		places[p] = len(steps)
		steps = append(steps, step)
		return true
	}
	ok := add(n)
	return steps, ok
}

// usableFactors returns the factors of p - 1 that the certificate of p uses, and whether they suffice.
func usableFactors(p api.Nat) ([]api.Nat, bool) {
	var factors []api.Nat
	rest := predecessor(p)
	for _, f := range smallPrimes() {
		if less := without(rest, f); less != rest {
			factors = append(factors, f)
			rest = less
		}
	}
	if isProbablePrime(rest) {
		factors = append(factors, rest)
		rest = natural.Of(1)
	}
	return factors, suffices(p, rest)
}

// smallPrimes returns the primes below limit.
func smallPrimes() []api.Nat {
	var list []api.Nat
	var composite [limit]bool
	for p := uint64(2); p < limit; p++ {
		if composite[p] {
			continue
		}
		list = append(list, natural.Of(p))
		for multiple := p * p; multiple < limit; multiple += p {
			composite[multiple] = true
		}
	}
	return list
}

// leastBase returns the least base for which the step of a probable prime with these factors, which suffice, is correct; false if there is none, as p is composite.
func leastBase(p api.Nat, factors []api.Nat) (api.Nat, bool) {
search:
	// A base for which p fails the strong test shows that p is composite: without this a composite number would be searched in vain for very long.
	for a := uint64(2); passes(p, a); a++ {
		for _, f := range factors {
			switch common(p, natural.Of(a), f) {
			case natural.Of(1):
			case p:
				continue search
			default:
				break search // a proper divisor of p was found
			}
		}
		return natural.Of(a), true
	}
	return "", false
}

// passes reports whether p is a strong probable prime to the base a.
func passes(p api.Nat, a uint64) bool {
	strong, _ := prime.Strong(p, natural.Of(a))
	return strong
}
