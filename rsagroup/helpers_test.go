package rsagroup

import (
	"math"
	"math/big"
	"math/rand"
	"slices"
	"strings"
	"testing"

	"domino/api"
	"domino/natural"
)

// nat returns the string of a small number.
func nat(n uint64) api.Nat {
	return natural.Of(n)
}

// nats returns the strings of small numbers.
func nats(l ...uint64) []api.Nat {
	var out []api.Nat
	for _, n := range l {
		out = append(out, nat(n))
	}
	return out
}

// toBig returns the number of a string.
func toBig(a api.Nat) *big.Int {
	return new(big.Int).SetBytes([]byte(a))
}

// fromBig returns the canonical string of a number, of any length.
func fromBig(n *big.Int) api.Nat {
	return api.Nat(n.Bytes())
}

// ones returns n bytes 255.
func ones(n int) api.Nat {
	return api.Nat(strings.Repeat("\xff", n))
}

// invalid returns strings that are not canonical.
func invalid() []api.Nat {
	return []api.Nat{"\x00", "\x00\x4d", "\x00" + ones(128), "\x01" + ones(128), ones(129), ones(1000)}
}

// malformed returns tapes that are not well-formed.
func malformed() []api.Tape {
	out := []api.Tape{{At: -1}, {At: math.MinInt}, {At: math.MaxInt32 + 1}, {Seed: "a", At: math.MaxInt32 + 1}, {Values: nats(1, 2), At: -1}}
	for _, bad := range invalid() {
		out = append(out, api.Tape{Values: []api.Nat{bad}}, api.Tape{Values: []api.Nat{"\x01", bad}}, api.Tape{Values: []api.Nat{bad}, Seed: "a", At: 1})
	}
	return out
}

// unknown returns the group of unknown order with a modulus.
func unknown(n uint64) api.Group {
	return api.Group{Modulus: nat(n)}
}

// trapdoor returns a trapdoor with small numbers.
func trapdoor(p, q uint64) api.Trapdoor {
	return api.Trapdoor{P: nat(p), Q: nat(q)}
}

// groupOf returns the group to which a trapdoor belongs.
func groupOf(d api.Trapdoor) api.Group {
	return api.Group{Modulus: fromBig(new(big.Int).Mul(toBig(d.P), toBig(d.Q)))}
}

// small returns trapdoors of groups that can be visited completely.
func small() []api.Trapdoor {
	return []api.Trapdoor{trapdoor(5, 7), trapdoor(7, 5), trapdoor(7, 11), trapdoor(11, 7), trapdoor(5, 11), trapdoor(11, 23), trapdoor(47, 5), trapdoor(7, 59), trapdoor(23, 47)}
}

// large returns trapdoors with primes of up to 8 bytes.
func large() []api.Trapdoor {
	return []api.Trapdoor{
		trapdoor(5, 18446744073709550147), trapdoor(4294967087, 7), trapdoor(4294967087, 18446744073709550147), trapdoor(18446744073709549019, 18446744073709550147), trapdoor(1000000000000007243, 107),
	}
}

// isPrime reports whether a number less than 2^64 is prime.
func isPrime(n uint64) bool {
	return new(big.Int).SetUint64(n).ProbablyPrime(0)
}

// isSafe reports whether a number less than 2^64 is a safe prime.
func isSafe(n uint64) bool {
	return isPrime(n) && isPrime((n-1)/2)
}

// isUnit reports whether 0 < x < n, and 1 is the greatest common divisor of x and n.
func isUnit(x, n *big.Int) bool {
	return x.Sign() > 0 && x.Cmp(n) < 0 && new(big.Int).GCD(nil, nil, x, n).Cmp(big.NewInt(1)) == 0
}

// units returns the units modulo a small number.
func units(n uint64) []uint64 {
	var list []uint64
	for x := range n {
		if isUnit(new(big.Int).SetUint64(x), new(big.Int).SetUint64(n)) {
			list = append(list, x)
		}
	}
	return list
}

// squares returns the squares of units modulo a small number, in ascending order.
func squares(n uint64) []uint64 {
	var list []uint64
	for _, x := range units(n) {
		if !slices.Contains(list, x*x%n) {
			list = append(list, x*x%n)
		}
	}
	slices.Sort(list)
	return list
}

// powers returns 1, x, x^2, .. modulo a small number until 1 comes again.
func powers(x, n uint64) []uint64 {
	list := []uint64{1}
	for y := x; y != 1; y = y * x % n {
		list = append(list, y)
	}
	return list
}

// modulusOf returns the modulus of a group as a small number.
func modulusOf(g api.Group) uint64 {
	return toBig(g.Modulus).Uint64()
}

// randomUnit returns a random element of a group.
func randomUnit(r *rand.Rand, g api.Group) api.Nat {
	for {
		if x := new(big.Int).Rand(r, toBig(g.Modulus)); isUnit(x, toBig(g.Modulus)) {
			return fromBig(x)
		}
	}
}

// squared returns the square of a number.
func squared(g api.Group, x api.Nat) api.Nat {
	return raised(g, x, nat(2))
}

// raised returns a power of a number.
func raised(g api.Group, x, e api.Nat) api.Nat {
	return fromBig(new(big.Int).Exp(toBig(x), toBig(e), toBig(g.Modulus)))
}

// refused checks that a function returned an error beside a zero value.
func refused[T comparable](t *testing.T, what string, got T, err, wanted api.Errno) {
	t.Helper()
	if got != *new(T) || err != wanted {
		t.Errorf("%s: got %v and error %d, want error %d", what, got, err, wanted)
	}
}
