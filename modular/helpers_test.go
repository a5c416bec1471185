package modular

import (
	"math/big"
	"math/rand"
	"strings"
	"testing"

	"domino/api"
	"domino/natural"
)

// toBig returns the number of a string.
func toBig(a api.Nat) *big.Int {
	return new(big.Int).SetBytes([]byte(a))
}

// fromBig returns the canonical string of a number, of any length.
func fromBig(n *big.Int) api.Nat {
	return api.Nat(n.Bytes())
}

// nat returns the string of a small number.
func nat(n uint64) api.Nat {
	return natural.Of(n)
}

// long returns a byte followed by zero bytes, n bytes in all.
func long(first byte, n int) api.Nat {
	return api.Nat(string([]byte{first}) + strings.Repeat("\x00", n-1))
}

// ones returns n bytes 255.
func ones(n int) api.Nat {
	return api.Nat(strings.Repeat("\xff", n))
}

// invalid returns strings that are not canonical.
func invalid() []api.Nat {
	return []api.Nat{"\x00", "\x00\x01", "\x00" + ones(127), "\x00" + ones(128), long(0, 128), long(1, 129), ones(129), ones(1000)}
}

// edges returns numbers beside the limits of bytes, words and canonical strings.
func edges() []api.Nat {
	var out []api.Nat
	one := big.NewInt(1)
	for _, bits := range []uint{0, 1, 2, 8, 32, 63, 64, 65, 127, 128, 512, 1023} {
		n := new(big.Int).Lsh(one, bits)
		out = append(out, fromBig(new(big.Int).Sub(n, one)), fromBig(n), fromBig(new(big.Int).Add(n, one)))
	}
	return append(out, ones(128), ones(127)+"\xfe", "\x0f")
}

// random returns a number of at most the given number of bytes; its bytes are often 0 or 255, where carries go far.
func random(r *rand.Rand, most int) api.Nat {
	b := make([]byte, r.Intn(most+1))
	for i := range b {
		switch r.Intn(4) {
		case 0:
			b[i] = 0
		case 1:
			b[i] = 255
		default:
			b[i] = byte(r.Intn(256))
		}
	}
	return api.Nat(strings.TrimLeft(string(b), "\x00"))
}

// randomWords returns a number of at most the given number of words of 64 bits, most of which are near 0, 2^63 or 2^64.
func randomWords(r *rand.Rand, most int) api.Nat {
	special := []uint64{0, 0, 1, 2, 1<<63 - 1, 1 << 63, 1<<63 + 1, 1<<64 - 2, 1<<64 - 1, 1<<64 - 1}
	n := new(big.Int)
	for range r.Intn(most + 1) {
		word := r.Uint64()
		if r.Intn(5) > 0 {
			word = special[r.Intn(len(special))]
		}
		n.Or(n.Lsh(n, 64), new(big.Int).SetUint64(word))
	}
	return fromBig(n)
}

// modulus returns a random number that is not 0.
func modulus(r *rand.Rand, most int) api.Nat {
	for {
		if m := random(r, most); m != "" {
			return m
		}
	}
}

// expect checks the result of an operation.
func expect(t *testing.T, what string, got api.Nat, err api.Errno, wanted *big.Int, arguments ...api.Nat) {
	t.Helper()
	if got != fromBig(wanted) || err != api.OK {
		t.Fatalf("%s of %x: got %x and error %d, want %x", what, arguments, got, err, wanted)
	}
}

// refused checks that an operation returned an error, and no result.
func refused(t *testing.T, what string, got api.Nat, err, wanted api.Errno) {
	t.Helper()
	if got != "" || err != wanted {
		t.Errorf("%s: got %x and error %d, want no result and error %d", what, got, err, wanted)
	}
}
