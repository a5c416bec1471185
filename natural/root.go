package natural

import "domino/api"

// Gcd returns the greatest common divisor of a and b.
func Gcd(a, b api.Nat) (api.Nat, api.Errno) {
	if !Valid(a) || !Valid(b) {
		return "", api.ErrForm
	}
	u, v := load(a), load(b)
	for len(v) > 0 {
		_, r := divide(u, v)
		u, v = v, r
	}
	return store(u)
}

// Sqrt returns the greatest number whose square is at most a.
func Sqrt(a api.Nat) (api.Nat, api.Errno) {
	if !Valid(a) {
		return "", api.ErrForm
	}
	if a == "" {
		return "", api.OK
	}
	// Newton's method falls from a number above the root until it is the root, rounded down, and then falls no more.
	x := powerOfTwo((Bits(a) + 1) / 2)
	for {
		q, _, _ := DivMod(a, x)
		sum, _ := Add(x, q)
		next, _, _ := DivMod(sum, Of(2))
		if Cmp(next, x) >= 0 {
			return x, api.OK
		}
		x = next
	}
}

// powerOfTwo returns 2^i.
func powerOfTwo(i int) api.Nat {
	b := make([]byte, i/8+1)
	b[0] = 1 << (i % 8)
	return api.Nat(b)
}
