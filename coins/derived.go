package coins

import (
	"iter"
	"strconv"
	"strings"

	"domino/api"
	"domino/hash"
	"domino/natural"
)

// attempts is the number of candidates for a coin; each of them is below the bound with a probability of at least one half, so one of them practically always is.
const attempts = 256

// firstBelow returns the first candidate that is less than n.
func firstBelow(n api.Nat, candidates iter.Seq[api.Nat]) (api.Nat, api.Errno) {
	for r := range candidates {
		if natural.Cmp(r, n) < 0 {
			return r, api.OK
		}
	}
	return "", api.ErrCoins
}

// candidates yields the numbers of at most the given number of bits that are derived from a seed for the coin at a position.
func candidates(seed string, at, bits int) iter.Seq[api.Nat] {
	return func(yield func(api.Nat) bool) {
		for a := range attempts {
			if !yield(candidate(seed, at, a, bits)) {
				return
			}
		}
	}
}

// candidate returns the number of attempt a for the coin at a position; bits is not 0.
func candidate(seed string, at, a, bits int) api.Nat {
	size := (bits + 7) / 8
	var stream []byte
	for block := range blocks(seed, at, a) {
		stream = append(stream, block...)
		if len(stream) >= size {
			break
		}
	}
	stream = stream[:size]
	stream[0] &= byte(255) >> (8*size - bits)
	return api.Nat(strings.TrimLeft(string(stream), "\x00"))
}

// blocks yields the bytes of attempt a for the coin at a position, as long as they are asked for.
func blocks(seed string, at, a int) iter.Seq[string] {
	return func(yield func(string) bool) {
		for b := 0; yield(hash.Mac(seed, label(at, a, b))); b++ {
		}
	}
}

// label returns numbers in decimal, separated by points.
func label(at, a, b int) string {
	return strconv.Itoa(at) + "." + strconv.Itoa(a) + "." + strconv.Itoa(b)
}
