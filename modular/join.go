package modular

import (
	"domino/api"
	"domino/natural"
)

// Join returns the least number that is congruent to a modulo m and to b modulo n, and the least common multiple of m and n.
func Join(a, m, b, n api.Nat) (api.Nat, api.Nat, api.Errno) {
	if err := check(m, a, b, n); err != api.OK {
		return "", "", err
	}
	if n == "" {
		return "", "", api.ErrZero
	}
	g, _ := natural.Gcd(m, n)
	if remainder(a, g) != remainder(b, g) {
		return "", "", api.ErrNone
	}
	mPart, _, _ := natural.DivMod(m, g)
	nPart, _, _ := natural.DivMod(n, g)
	multiple, err := natural.Mul(m, nPart)
	if err != api.OK {
		return "", "", err
	}
	// The least number is that of the numbers start + m k for which m k is congruent to b - start modulo n, where g divides everything.
	start := remainder(a, m)
	gap, _ := Sub(b, start, n)
	gap, _, _ = natural.DivMod(gap, g)
	inverse, _ := Inverse(mPart, nPart)
	k, _ := Mul(gap, inverse, nPart)
	distance, _ := natural.Mul(m, k)
	x, _ := natural.Add(start, distance)
	return x, multiple, api.OK
}
