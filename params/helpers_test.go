package params

import (
	"math"
	"math/big"
	"slices"
	"strings"
	"testing"

	"domino/api"
	"domino/coins"
	"domino/natural"
)

// nat returns the string of a small number.
func nat(n uint64) api.Nat {
	return natural.Of(n)
}

// nats returns the strings of small numbers.
func nats(l ...uint64) []api.Nat {
	var out []api.Nat
	for _, n := range l {
		out = append(out, nat(n))
	}
	return out
}

// values returns the tape with small numbers.
func values(l ...uint64) api.Tape {
	return coins.Values(nats(l...)...)
}

// repeated returns the tape with count times the same number, and then others.
func repeated(n uint64, count int, others ...uint64) api.Tape {
	return coins.Values(append(slices.Repeat(nats(n), count), nats(others...)...)...)
}

// toBig returns the number of a string.
func toBig(a api.Nat) *big.Int {
	return new(big.Int).SetBytes([]byte(a))
}

// fromBig returns the canonical string of a number, of any length.
func fromBig(n *big.Int) api.Nat {
	return api.Nat(n.Bytes())
}

// power returns 2^bits plus a small number.
func power(bits uint, more int64) api.Nat {
	n := new(big.Int).Lsh(big.NewInt(1), bits)
	return fromBig(n.Add(n, big.NewInt(more)))
}

// ones returns n bytes 255.
func ones(n int) api.Nat {
	return api.Nat(strings.Repeat("\xff", n))
}

// invalid returns strings that are not canonical.
func invalid() []api.Nat {
	return []api.Nat{"\x00", "\x00\x05", "\x00" + ones(7), "\x00" + ones(128), "\x01" + ones(128), ones(129), ones(1000)}
}

// malformed returns tapes that are not well-formed.
func malformed() []api.Tape {
	out := []api.Tape{{At: -1}, {At: math.MinInt}, {At: math.MaxInt32 + 1}, {Seed: "a", At: math.MaxInt32 + 1}, {Seed: "a", At: -1}, {Values: nats(1, 1), At: -1}}
	for _, bad := range invalid() {
		out = append(out, api.Tape{Values: []api.Nat{bad}}, api.Tape{Values: []api.Nat{"\x01", "\x01", bad}}, api.Tape{Values: []api.Nat{bad}, Seed: "a", At: 1})
	}
	return out
}

// seeds returns seeds of several lengths.
func seeds() []string {
	return []string{"a", "a seed", "\x00", "\x00\x00\xff", strings.Repeat("x", 100)}
}

// starts returns five tapes for each seed, at several positions, some with values that come first or are used up.
func starts() []api.Tape {
	var out []api.Tape
	for _, s := range seeds() {
		out = append(out, coins.Seed(s), api.Tape{Seed: s, At: 1000}, api.Tape{Values: nats(0, 0, 0, 1), Seed: s}, api.Tape{Values: nats(3, 2, 1), Seed: s, At: 2}, api.Tape{Values: nats(99), Seed: s, At: 7})
	}
	return out
}

// same reports whether two tapes are equal.
func same(a, b api.Tape) bool {
	return slices.Equal(a.Values, b.Values) && a.Seed == b.Seed && a.At == b.At
}

// isPrime reports whether a number less than 2^64 is prime.
func isPrime(n *big.Int) bool {
	return n.ProbablyPrime(0)
}

// isSafe reports whether a number less than 2^64 is a safe prime.
func isSafe(n *big.Int) bool {
	return isPrime(n) && isPrime(new(big.Int).Rsh(n, 1))
}

// referencePrime returns what Prime should return for a well-formed tape and bits in their range.
func referencePrime(bits int, t api.Tape) (api.Nat, api.Tape, api.Errno) {
	least := toBig(power(uint(bits-1), 0))
	return reference(t, fromBig(least), func(c *big.Int) (*big.Int, bool) {
		p := new(big.Int).Add(least, c)
		return p, isPrime(p)
	})
}

// referenceSafePrime returns what SafePrime should return for a well-formed tape and bits in their range.
func referenceSafePrime(bits int, t api.Tape) (api.Nat, api.Tape, api.Errno) {
	least := toBig(power(uint(bits-2), 0))
	return reference(t, fromBig(least), func(c *big.Int) (*big.Int, bool) {
		p := new(big.Int).Add(least, c)
		p.Add(p.Lsh(p, 1), big.NewInt(1))
		return p, isSafe(p)
	})
}

// reference returns the first number that an attempt finds with a coin below n.
func reference(t api.Tape, n api.Nat, attempt func(*big.Int) (*big.Int, bool)) (api.Nat, api.Tape, api.Errno) {
	for range 65536 {
		c, next, err := coins.Below(t, n)
		if err != api.OK {
			return "", api.Tape{}, err
		}
		t = next
		if p, ok := attempt(toBig(c)); ok {
			return fromBig(p), t, api.OK
		}
	}
	return "", api.Tape{}, api.ErrPrime
}

// referenceMain returns what Main should return for a well-formed tape and bits in their range.
func referenceMain(bits int, t api.Tape) (api.Group, api.Tape, api.Errno) {
	q, t, err := referencePrime(bits, t)
	if err != api.OK {
		return api.Group{}, api.Tape{}, err
	}
	for k := int64(2); k <= 65536; k += 2 {
		p := new(big.Int).Mul(big.NewInt(k), toBig(q))
		if p.Add(p, big.NewInt(1)); isPrime(p) {
			return api.Group{Modulus: fromBig(p), Order: q}, t, api.OK
		}
	}
	return api.Group{}, api.Tape{}, api.ErrPrime
}

// referenceWhole returns what Whole should return for a well-formed tape and bits in their range.
func referenceWhole(bits int, t api.Tape) (api.Group, api.Trapdoor, api.Tape, api.Errno) {
	var found []api.Nat
	for range 65 {
		p, next, err := referenceSafePrime(bits, t)
		if err != api.OK {
			return api.Group{}, api.Trapdoor{}, api.Tape{}, err
		}
		found, t = append(found, p), next
		if p != found[0] {
			return api.Group{Modulus: fromBig(new(big.Int).Mul(toBig(found[0]), toBig(p)))}, api.Trapdoor{P: found[0], Q: p}, t, api.OK
		}
	}
	return api.Group{}, api.Trapdoor{}, api.Tape{}, api.ErrPrime
}

// result is what a search for primes returns.
type result struct {
	group api.Group
	door  api.Trapdoor
	prime api.Nat
	tape  api.Tape
	err   api.Errno
}

// searching is a search function of this package, its range of bits, and a function that says what it should return.
type searching struct {
	name        string
	least, most int
	run         func(bits int, t api.Tape) result
	wanted      func(bits int, t api.Tape) result
}

// searches returns the four search functions.
func searches() []searching {
	number := func(f func(int, api.Tape) (api.Nat, api.Tape, api.Errno)) func(int, api.Tape) result {
		return func(bits int, t api.Tape) result {
			p, next, err := f(bits, t)
			return result{prime: p, tape: next, err: err}
		}
	}
	group := func(f func(int, api.Tape) (api.Group, api.Tape, api.Errno)) func(int, api.Tape) result {
		return func(bits int, t api.Tape) result {
			g, next, err := f(bits, t)
			return result{group: g, tape: next, err: err}
		}
	}
	whole := func(f func(int, api.Tape) (api.Group, api.Trapdoor, api.Tape, api.Errno)) func(int, api.Tape) result {
		return func(bits int, t api.Tape) result {
			g, d, next, err := f(bits, t)
			return result{group: g, door: d, tape: next, err: err}
		}
	}
	return []searching{
		{"Prime", 2, 60, number(Prime), number(referencePrime)},
		{"SafePrime", 3, 60, number(SafePrime), number(referenceSafePrime)},
		{"Main", 2, 40, group(Main), group(referenceMain)},
		{"Whole", 3, 32, whole(Whole), whole(referenceWhole)},
	}
}

// equal reports whether two results are equal.
func equal(a, b result) bool {
	return a.group == b.group && a.door == b.door && a.prime == b.prime && same(a.tape, b.tape) && a.err == b.err
}

// compare checks that a search returns what it should.
func compare(t *testing.T, s searching, bits int, tape api.Tape) {
	t.Helper()
	if got, wanted := s.run(bits, tape), s.wanted(bits, tape); !equal(got, wanted) {
		t.Fatalf("%s of %d bits from %.60x: got %.60x, want %.60x", s.name, bits, tape, got, wanted)
	}
}

// refused checks that a search returns an error beside zero values.
func refused(t *testing.T, s searching, bits int, tape api.Tape, wanted api.Errno) {
	t.Helper()
	if got := s.run(bits, tape); !equal(got, result{err: wanted}) {
		t.Errorf("%s of %d bits from %.60x: got %.60x, want error %d", s.name, bits, tape, got, wanted)
	}
}

// found checks the number that Prime or SafePrime returns, and the position of the tape behind the coins.
func found(t *testing.T, s searching, bits int, tape api.Tape, wanted uint64, at int) {
	t.Helper()
	behind := api.Tape{Values: tape.Values, Seed: tape.Seed, At: at}
	if got := s.run(bits, tape); !equal(got, result{prime: nat(wanted), tape: behind}) {
		t.Errorf("%s of %d bits from %.60x: got %.60x, want %d and At %d", s.name, bits, tape, got, wanted, at)
	}
}
