package params

import (
	"math"
	"slices"
	"testing"

	"domino/api"
	"domino/coins"
)

// P11.1 and P11.2: the coins of small numbers, and pairs of them.
func TestSearchesOfValues(t *testing.T) {
	for _, s := range searches() {
		for bits := s.least; bits < 9; bits++ {
			for c := range uint64(1) << bits {
				compare(t, s, bits, values(c))
				compare(t, s, bits, values(0, c))
				compare(t, s, bits, values(c, 1))
				compare(t, s, bits, values(c, 2, c, 3, 5, 9))
				compare(t, s, bits, api.Tape{Values: nats(7, 1, c, 1), At: 2})
				compare(t, s, bits, api.Tape{Values: nats(c), Seed: "a seed"})
			}
		}
	}
}

// P11.1 and P11.2: coins from seeds.
func TestSearchesOfSeeds(t *testing.T) {
	for _, s := range searches() {
		for bits := s.least; bits <= s.most; bits++ {
			for i, tape := range starts() {
				// Searches for long primes take long, so one of the five tapes with each seed has to do.
				if bits <= 16 || i%5 == bits%5 {
					compare(t, s, bits, tape)
				}
			}
		}
	}
}

// P11.1 and P11.2: results that were calculated elsewhere.
func TestSearchesOfKnownResults(t *testing.T) {
	all := searches()
	for _, c := range []struct {
		search, bits int
		prime        uint64
		at           int
	}{
		{0, 2, 3, 1}, {0, 3, 5, 1}, {0, 10, 557, 5}, {0, 32, 2736806323, 36}, {0, 60, 699700855289759849, 58},
		{1, 3, 7, 1}, {1, 4, 11, 1}, {1, 10, 719, 3}, {1, 32, 3673083719, 122}, {1, 60, 717959081671108427, 2238},
	} {
		found(t, all[c.search], c.bits, coins.Seed("a seed"), c.prime, c.at)
	}
	for _, c := range []struct {
		bits           int
		modulus, order uint64
		at             int
	}{{2, 7, 3, 1}, {8, 503, 251, 2}, {40, 13511261164283, 965090083163, 50}} {
		g, tape, err := Main(c.bits, coins.Seed("a seed"))
		if g != (api.Group{Modulus: nat(c.modulus), Order: nat(c.order)}) || !same(tape, api.Tape{Seed: "a seed", At: c.at}) || err != api.OK {
			t.Errorf("Main of %d bits: got %x, %x and error %d", c.bits, g, tape, err)
		}
	}
	for _, c := range []struct {
		bits          int
		modulus, p, q uint64
		at            int
	}{{3, 35, 7, 5, 5}, {10, 404797, 719, 563, 103}, {32, 13870349718416736001, 3673083719, 3776213879, 289}} {
		g, d, tape, err := Whole(c.bits, coins.Seed("a seed"))
		if g != (api.Group{Modulus: nat(c.modulus)}) || d != (api.Trapdoor{P: nat(c.p), Q: nat(c.q)}) || !same(tape, api.Tape{Seed: "a seed", At: c.at}) || err != api.OK {
			t.Errorf("Whole of %d bits: got %x, %x, %x and error %d", c.bits, g, d, tape, err)
		}
	}
}

// P11.1: the examples of the document.
func TestPrimeExamples(t *testing.T) {
	all := searches()
	found(t, all[0], 3, values(0, 2, 3), 7, 3)
	found(t, all[0], 3, values(0, 2, 1, 3), 5, 3)
	found(t, all[0], 2, values(0), 2, 1)
	found(t, all[0], 2, values(1, 0), 3, 1)
	found(t, all[1], 4, values(0, 1), 11, 2)
	found(t, all[1], 3, values(0), 5, 1)
	found(t, all[1], 3, values(1), 7, 1)
	refused(t, all[1], 4, values(2, 3), api.ErrCoins) // 13 is prime, 6 is not; 7 is prime, 15 is not
}

// P11.1: there are 65536 attempts, each with one coin.
func TestAttemptsOfPrimes(t *testing.T) {
	for _, c := range []struct {
		search   searching
		bits     int
		bad      uint64 // the coin of an attempt that fails
		good     uint64 // and of one that succeeds,
		wanted   uint64 // with this number
		tooLarge uint64
	}{{searches()[0], 3, 0, 1, 5, 4}, {searches()[1], 5, 0, 3, 23, 8}} {
		found(t, c.search, c.bits, repeated(c.bad, 100, c.good), c.wanted, 101)
		found(t, c.search, c.bits, repeated(c.bad, 65535, c.good, c.tooLarge), c.wanted, 65536)
		refused(t, c.search, c.bits, repeated(c.bad, 65536, c.good), api.ErrPrime)
		refused(t, c.search, c.bits, repeated(c.bad, 65536), api.ErrPrime)
		refused(t, c.search, c.bits, repeated(c.bad, 65535), api.ErrCoins)
		refused(t, c.search, c.bits, repeated(c.bad, 65535, c.tooLarge), api.ErrRange)
		tape := repeated(c.bad, 65537, c.good)
		refused(t, c.search, c.bits, tape, api.ErrPrime)
		tape.At = 2
		found(t, c.search, c.bits, tape, c.wanted, 65538)
		tape.At, tape.Seed = 0, "a"
		refused(t, c.search, c.bits, tape, api.ErrPrime)
	}
}

// P11.1 and P11.2: ErrForm comes first, then ErrRange for the bits, then the errors of coins.
func TestErrorsOfSearches(t *testing.T) {
	for _, s := range searches() {
		for _, bits := range []int{math.MinInt, -1, 0, 1, s.least - 1, s.least, 10, s.most, s.most + 1, 63, 64, 65, 128, math.MaxInt} {
			for _, tape := range malformed() {
				refused(t, s, bits, tape, api.ErrForm)
			}
			if bits < s.least || bits > s.most {
				for _, tape := range []api.Tape{{}, coins.Seed("a"), values(1, 0, 1), {At: math.MaxInt32}} {
					refused(t, s, bits, tape, api.ErrRange)
				}
				continue
			}
			for _, tape := range []api.Tape{{}, {At: 1}, {Values: nats(1), At: 1}, {Seed: "a", At: math.MaxInt32}, {Values: nats(1), Seed: "a", At: math.MaxInt32}} {
				refused(t, s, bits, tape, api.ErrCoins)
			}
			refused(t, s, bits, coins.Values(power(uint(bits), 0)), api.ErrRange)
			refused(t, s, bits, coins.Values(ones(128), ""), api.ErrRange)
		}
	}
}

// P11.1: coins are below 2^(bits-1), or 2^(bits-2) for safe primes.
func TestBoundsOfCoins(t *testing.T) {
	for _, s := range searches() {
		shift := uint(1)
		if s.name == "SafePrime" || s.name == "Whole" {
			shift = 2
		}
		for bits := s.least; bits <= s.most; bits++ {
			bound := power(uint(bits)-shift, 0)
			refused(t, s, bits, coins.Values(bound), api.ErrRange)
			most := power(uint(bits)-shift, -1)
			compare(t, s, bits, api.Tape{Values: []api.Nat{most, ""}, Seed: "a"})
			if got := s.run(bits, coins.Values(most)); got.err == api.ErrRange {
				t.Errorf("%s of %d bits: the greatest coin is refused", s.name, bits)
			}
		}
	}
}

// P11.1: the last coin of a seed.
func TestEndOfTapes(t *testing.T) {
	all := searches()
	for at := math.MaxInt32 - 60; at <= math.MaxInt32; at++ {
		for _, s := range all {
			compare(t, s, 6, api.Tape{Seed: "a", At: at})
			compare(t, s, 3, api.Tape{Seed: "b", At: at})
		}
	}
	tape := api.Tape{Seed: "a", At: math.MaxInt32 - 1}
	p, next, err := Prime(2, tape)
	if p == "" || next.At != math.MaxInt32 || err != api.OK {
		t.Errorf("Prime from the last coin: got %x, %x and error %d", p, next, err)
	}
}

// P11.4: with the coins that a function has used, as explicit values, it returns the same result.
func TestSearchesWithTheirCoins(t *testing.T) {
	for _, s := range searches() {
		for bits := s.least; bits <= s.most; bits += 3 {
			bound := power(uint(bits-1), 0)
			if s.name == "SafePrime" || s.name == "Whole" {
				bound = power(uint(bits-2), 0)
			}
			for _, seed := range seeds() {
				first := s.run(bits, coins.Seed(seed))
				if first.err != api.OK {
					continue
				}
				used, _, _ := coins.Many(coins.Seed(seed), bound, min(first.tape.At, api.MaxLog))
				if len(used) < first.tape.At {
					continue
				}
				again := s.run(bits, coins.Values(used...))
				wanted := first
				wanted.tape = api.Tape{Values: used, At: len(used)}
				if !equal(again, wanted) {
					t.Errorf("%s of %d bits: got %x with the coins of %x", s.name, bits, again, first)
				}
			}
		}
	}
}

// P11.1 and P11.2: the tape behind the coins has values of its own, and the argument is not modified.
func TestTapesShareNoMemory(t *testing.T) {
	for _, s := range searches() {
		tape := api.Tape{Values: append(make([]api.Nat, 0, 8), nats(0, 1, 0)...), Seed: "a"}
		next := s.run(3, tape).tape
		if len(next.Values) != 3 {
			t.Fatalf("%s: the tape behind the coins is %x", s.name, next)
		}
		next.Values[1] = nat(7)
		_ = append(next.Values, nat(8))
		if !slices.Equal(tape.Values[:4], append(nats(0, 1, 0), "")) || tape.At != 0 || tape.Seed != "a" {
			t.Errorf("%s: the argument has changed to %x", s.name, tape)
		}
		tape.Values[2] = nat(9)
		if next.Values[2] != "" {
			t.Errorf("%s: the tape behind the coins has changed", s.name)
		}
	}
}
