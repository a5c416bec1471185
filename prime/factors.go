package prime

import (
	"iter"

	"domino/api"
	"domino/natural"
)

// Factors returns the prime factors of n in ascending order.
func Factors(n api.Nat) ([]api.Nat, api.Errno) {
	const limit = 1 << 40
	small, ok := natural.Small(n)
	switch {
	case !natural.Valid(n):
		return nil, api.ErrForm
	case n == "":
		return nil, api.ErrZero
	case !ok || small >= limit:
		return nil, api.ErrLong
	}
	var list []api.Nat
	for p := range factors(small) {
		list = append(list, natural.Of(p))
	}
	return list, api.OK
}

// factors yields the prime factors of n, which is not 0, in ascending order.
func factors(n uint64) iter.Seq[uint64] {
	return func(yield func(uint64) bool) {
		rest := n
		for d := uint64(2); d*d <= rest; d++ {
			for rest%d == 0 {
				if !yield(d) {
					return
				}
				rest /= d
			}
		}
		if rest > 1 {
			yield(rest)
		}
	}
}
