package integer

import (
	"math/big"
	"math/rand"
	"strings"
	"testing"

	"domino/api"
)

// toBig returns the number of a valid integer.
func toBig(a api.Int) *big.Int {
	n := new(big.Int).SetBytes([]byte(a.Abs))
	if a.Neg {
		n.Neg(n)
	}
	return n
}

// fromBig returns the integer with the value of n, of any length.
func fromBig(n *big.Int) api.Int {
	return api.Int{Neg: n.Sign() < 0, Abs: api.Nat(n.Bytes())}
}

// long returns a byte followed by zero bytes, n bytes in all.
func long(first byte, n int) api.Nat {
	return api.Nat(string([]byte{first}) + strings.Repeat("\x00", n-1))
}

// ones returns n bytes 255.
func ones(n int) api.Nat {
	return api.Nat(strings.Repeat("\xff", n))
}

// invalidNats returns strings that are not canonical.
func invalidNats() []api.Nat {
	return []api.Nat{"\x00", "\x00\x01", "\x00" + ones(127), "\x00" + ones(128), long(0, 128), long(1, 129), ones(129), ones(1000)}
}

// invalid returns integers that are not valid.
func invalid() []api.Int {
	out := []api.Int{{Neg: true}}
	for _, a := range invalidNats() {
		out = append(out, api.Int{Abs: a}, api.Int{Neg: true, Abs: a})
	}
	return out
}

// edgeNats returns numbers beside the limits of bytes, machine words and canonical strings.
func edgeNats() []api.Nat {
	var out []api.Nat
	for _, bits := range []uint{0, 1, 2, 3, 8, 16, 32, 62, 63, 64, 511, 512, 1023} {
		n := new(big.Int).Lsh(big.NewInt(1), bits)
		for _, d := range []int64{-1, 0, 1} {
			out = append(out, fromBig(new(big.Int).Add(n, big.NewInt(d))).Abs)
		}
	}
	return append(out, ones(128), ones(127)+"\xfe", "\x07", "\x0c", "\x12")
}

// edges returns the edge numbers with both signs.
func edges() []api.Int {
	var out []api.Int
	for _, a := range edgeNats() {
		out = append(out, api.Int{Abs: a})
		if a != "" {
			out = append(out, api.Int{Neg: true, Abs: a})
		}
	}
	return out
}

// randomNat returns a number of at most the given number of bytes.
func randomNat(r *rand.Rand, most int) api.Nat {
	b := make([]byte, r.Intn(most+1))
	for i := range b {
		b[i] = byte(r.Intn(256))
	}
	return api.Nat(strings.TrimLeft(string(b), "\x00"))
}

// random returns an integer with a magnitude of at most the given number of bytes.
func random(r *rand.Rand, most int) api.Int {
	a := randomNat(r, most)
	return api.Int{Neg: a != "" && r.Intn(2) == 0, Abs: a}
}

// pairs calls f for all pairs of edges, for all pairs of small integers, and for random pairs.
func pairs(f func(a, b api.Int)) {
	for _, a := range edges() {
		for _, b := range edges() {
			f(a, b)
		}
	}
	for a := int64(-20); a <= 20; a++ {
		for b := int64(-20); b <= 20; b++ {
			f(fromBig(big.NewInt(a)), fromBig(big.NewInt(b)))
		}
	}
	r := rand.New(rand.NewSource(1))
	for range 5000 {
		f(random(r, 128), random(r, 1+r.Intn(128)))
	}
}

// expect checks the result of an operation whose exact result is n, or ErrLong.
func expect(t *testing.T, what string, a, b, got api.Int, err api.Errno, n *big.Int) {
	t.Helper()
	wanted, wantedErr := fromBig(n), api.OK
	if len(wanted.Abs) > api.MaxBytes {
		wanted, wantedErr = api.Int{}, api.ErrLong
	}
	if got != wanted || err != wantedErr {
		t.Fatalf("%s of %v and %v: got %v and error %d, want %v and error %d", what, toBig(a), toBig(b), toBig(got), err, toBig(wanted), wantedErr)
	}
}

// refused checks that an operation returned an error, and no result.
func refused(t *testing.T, what string, got api.Int, err, wanted api.Errno) {
	t.Helper()
	if got != (api.Int{}) || err != wanted {
		t.Errorf("%s: got %v and error %d, want no result and error %d", what, got, err, wanted)
	}
}
