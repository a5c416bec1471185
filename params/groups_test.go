package params

import (
	"math/big"
	"testing"

	"domino/api"
	"domino/coins"
	"domino/natural"
	"domino/primegroup"
	"domino/rsagroup"
)

// P11.2: the examples of the document.
func TestMainExamples(t *testing.T) {
	for _, c := range []struct {
		bits           int
		tape           api.Tape
		modulus, order uint64
		at             int
	}{
		{2, values(1), 7, 3, 1}, {3, values(3), 29, 7, 1}, {2, values(0), 5, 2, 1}, {3, values(0, 2, 1, 3), 11, 5, 3}, {4, values(0, 3), 23, 11, 2}, {4, values(5), 53, 13, 1},
		// 170167 is a prime that needs a great factor: no smaller prime has a greater one
		{18, values(170167 - 131072), 144*170167 + 1, 170167, 1},
	} {
		g, tape, err := Main(c.bits, c.tape)
		if g != (api.Group{Modulus: nat(c.modulus), Order: nat(c.order)}) || tape.At != c.at || err != api.OK {
			t.Errorf("Main of %d bits from %x: got %x, At %d and error %d", c.bits, c.tape, g, tape.At, err)
		}
	}
}

// P11.2: no prime is known here whose modulus needs a factor near 65536, so the test passes the greatest factor.
func TestModulus(t *testing.T) {
	for _, c := range []struct {
		q, most uint64
		p       uint64
		err     api.Errno
	}{
		{7, 2, 0, api.ErrPrime}, {7, 3, 0, api.ErrPrime}, {7, 4, 29, api.OK}, {7, 65536, 29, api.OK}, {3, 2, 7, api.OK},
		{170167, 142, 0, api.ErrPrime}, {170167, 143, 0, api.ErrPrime}, {170167, 144, 144*170167 + 1, api.OK}, {170167, 65536, 144*170167 + 1, api.OK},
	} {
		if p, err := modulus(nat(c.q), c.most); p != nat(c.p) || err != c.err {
			t.Errorf("modulus of %d with factors up to %d: got %x and error %d", c.q, c.most, p, err)
		}
	}
	for _, q := range []api.Nat{power(64, 0), ones(127), ones(128)} {
		if p, err := modulus(q, 65536); p != "" || err != api.ErrPrime {
			t.Errorf("modulus of %x: got %x and error %d", q, p, err)
		}
	}
}

// P11.2: the examples of the document, and the primes that are drawn until one differs.
func TestWholeExamples(t *testing.T) {
	for _, c := range []struct {
		bits int
		tape api.Tape
		p, q uint64
		at   int
	}{
		{3, values(0, 0, 1), 5, 7, 3}, {3, values(1, 0), 7, 5, 2}, {3, values(1, 1, 1, 0, 0), 7, 5, 4}, {6, values(13, 7, 0, 13, 7), 59, 47, 2}, {6, values(0, 13, 0, 13, 1, 7), 59, 47, 6},
		// the last one of the 64 primes differs
		{3, repeated(0, 64, 1, 2), 5, 7, 65}, {6, repeated(7, 64, 3, 13), 47, 59, 66},
	} {
		g, d, tape, err := Whole(c.bits, c.tape)
		if g != (api.Group{Modulus: nat(c.p * c.q)}) || d != (api.Trapdoor{P: nat(c.p), Q: nat(c.q)}) || tape.At != c.at || err != api.OK {
			t.Errorf("Whole of %d bits from %x: got %x, %x, At %d and error %d", c.bits, c.tape, g, d, tape.At, err)
		}
	}
}

// P11.2: the errors behind the first prime.
func TestErrorsOfWhole(t *testing.T) {
	whole := searches()[3]
	for _, c := range []struct {
		bits int
		tape api.Tape
		err  api.Errno
	}{
		{3, repeated(0, 65, 1), api.ErrPrime}, {3, repeated(0, 65), api.ErrPrime}, {3, repeated(0, 65, 2), api.ErrPrime}, {3, repeated(1, 66), api.ErrPrime},
		{3, repeated(0, 64), api.ErrCoins}, {3, values(0), api.ErrCoins}, {3, repeated(0, 64, 2), api.ErrRange}, {3, values(0, 2), api.ErrRange},
		// 11 is the only safe prime with 4 bits, and 23 the only one with 5 bits
		{4, coins.Seed("a"), api.ErrPrime}, {5, coins.Seed("a"), api.ErrPrime}, {4, values(1, 0, 1, 0), api.ErrCoins}, {4, values(0), api.ErrCoins},
		// each prime has 65536 attempts of its own
		{6, coins.Values(append(nats(7), repeated(0, 65536).Values...)...), api.ErrPrime},
		{6, coins.Values(append(nats(7), repeated(0, 65535, 16).Values...)...), api.ErrRange},
	} {
		refused(t, whole, c.bits, c.tape, c.err)
	}
	many := append(repeated(0, 60000, 7).Values, repeated(0, 60000, 13).Values...)
	g, _, tape, err := Whole(6, coins.Values(many...))
	if g != (api.Group{Modulus: nat(47 * 59)}) || tape.At != len(many) || err != api.OK {
		t.Errorf("many attempts for both primes: got %x, At %d and error %d", g, tape.At, err)
	}
}

// P11.4: the numbers are prime and have the number of bits.
func TestPrimesHaveTheirBits(t *testing.T) {
	for _, seed := range seeds() {
		for bits := 2; bits <= 60; bits++ {
			if p, _, err := Prime(bits, coins.Seed(seed)); !isPrime(toBig(p)) || natural.Bits(p) != bits || err != api.OK {
				t.Errorf("Prime of %d bits: got %x and error %d", bits, p, err)
			}
		}
		for bits := 3; bits <= 40; bits++ {
			if p, _, err := SafePrime(bits, coins.Seed(seed)); !isSafe(toBig(p)) || natural.Bits(p) != bits || err != api.OK {
				t.Errorf("SafePrime of %d bits: got %x and error %d", bits, p, err)
			}
		}
	}
}

// P11.4: the layers below accept the groups.
func TestGroupsAreAccepted(t *testing.T) {
	for _, seed := range seeds() {
		for bits := 2; bits <= 40; bits++ {
			g, _, err := Main(bits, coins.Seed(seed))
			if primegroup.Check(g) != api.OK || natural.Bits(g.Order) != bits || err != api.OK {
				t.Errorf("Main of %d bits: got %x and error %d", bits, g, err)
			}
			factor := new(big.Int).Sub(toBig(g.Modulus), big.NewInt(1))
			if factor.Div(factor, toBig(g.Order)); factor.Bit(0) != 0 || factor.Cmp(big.NewInt(65536)) > 0 {
				t.Errorf("Main of %d bits: the factor is %v", bits, factor)
			}
		}
		for bits := 3; bits <= 32; bits++ {
			if bits == 4 || bits == 5 {
				continue // there is only one safe prime
			}
			g, d, _, err := Whole(bits, coins.Seed(seed))
			if rsagroup.Check(g, d) != api.OK || natural.Bits(d.P) != bits || natural.Bits(d.Q) != bits || err != api.OK {
				t.Errorf("Whole of %d bits: got %x, %x and error %d", bits, g, d, err)
			}
		}
	}
}
