package natural

import (
	"math/big"
	"math/rand"
	"strings"
	"testing"

	"domino/api"
)

// toBig returns the number of a string.
func toBig(a api.Nat) *big.Int {
	return new(big.Int).SetBytes([]byte(a))
}

// fromBig returns the canonical string of a number, of any length.
func fromBig(n *big.Int) api.Nat {
	return api.Nat(n.Bytes())
}

// long returns a byte followed by zero bytes, n bytes in all.
func long(first byte, n int) api.Nat {
	return api.Nat(string([]byte{first}) + strings.Repeat("\x00", n-1))
}

// ones returns n bytes 255.
func ones(n int) api.Nat {
	return api.Nat(strings.Repeat("\xff", n))
}

// invalid returns strings that are not canonical.
func invalid() []api.Nat {
	return []api.Nat{
		"\x00", "\x00\x01", "\x00\x00", "\x00" + ones(127), "\x00" + ones(128), long(0, 128), long(0, 129),
		long(1, 129), ones(129), long(1, 257), ones(1000), long(0, 1<<16), ones(1 << 16),
	}
}

// edges returns numbers beside the limits of bytes, digits and canonical strings.
func edges() []api.Nat {
	var out []api.Nat
	for _, bits := range []uint{0, 1, 2, 4, 7, 8, 15, 16, 24, 31, 32, 33, 63, 64, 65, 96, 127, 128, 511, 512, 513, 1015, 1016, 1023} {
		n := new(big.Int).Lsh(big.NewInt(1), bits)
		one := big.NewInt(1)
		out = append(out, fromBig(new(big.Int).Sub(n, one)), fromBig(n), fromBig(new(big.Int).Add(n, one)))
	}
	return append(out, ones(128), ones(127)+"\xfe", long(0xff, 128), "\x0a", "\x64", Of(1000000000), Of(999999999))
}

// random returns a number of at most the given number of bytes; its bytes are often 0 or 255, where carries go far.
func random(r *rand.Rand, most int) api.Nat {
	b := make([]byte, r.Intn(most+1))
	for i := range b {
		switch r.Intn(4) {
		case 0:
			b[i] = 0
		case 1:
			b[i] = 255
		default:
			b[i] = byte(r.Intn(256))
		}
	}
	return api.Nat(strings.TrimLeft(string(b), "\x00"))
}

// pairs calls f for all pairs of edges, and for random pairs.
func pairs(f func(a, b api.Nat)) {
	for _, a := range edges() {
		for _, b := range edges() {
			f(a, b)
		}
	}
	r := rand.New(rand.NewSource(1))
	for range 20000 {
		f(random(r, 128), random(r, 1+r.Intn(128)))
	}
}

// expect checks the result of an operation whose exact result is the number n, or ErrLong.
func expect(t *testing.T, what string, a, b, got api.Nat, err api.Errno, n *big.Int) {
	t.Helper()
	wanted, wantedErr := fromBig(n), api.OK
	if len(wanted) > api.MaxBytes {
		wanted, wantedErr = "", api.ErrLong
	}
	if got != wanted || err != wantedErr {
		t.Fatalf("%s of %x and %x: got %x and error %d, want %x and error %d", what, a, b, got, err, wanted, wantedErr)
	}
}

// refused checks that an operation returned an error, and no result.
func refused(t *testing.T, what string, got api.Nat, err, wanted api.Errno) {
	t.Helper()
	if got != "" || err != wanted {
		t.Errorf("%s: got %x and error %d, want no result and error %d", what, got, err, wanted)
	}
}
