package coins

import (
	"crypto/hmac"
	"crypto/sha256"
	"fmt"
	"math"
	"math/big"
	"slices"
	"strings"
	"testing"

	"domino/api"
	"domino/natural"
)

// nat returns the string of a small number.
func nat(n uint64) api.Nat {
	return natural.Of(n)
}

// nats returns the strings of small numbers.
func nats(l ...uint64) []api.Nat {
	var out []api.Nat
	for _, n := range l {
		out = append(out, nat(n))
	}
	return out
}

// toBig returns the number of a string.
func toBig(a api.Nat) *big.Int {
	return new(big.Int).SetBytes([]byte(a))
}

// fromBig returns the canonical string of a number, of any length.
func fromBig(n *big.Int) api.Nat {
	return api.Nat(n.Bytes())
}

// power returns 2^bits plus a small number.
func power(bits uint, more int64) api.Nat {
	n := new(big.Int).Lsh(big.NewInt(1), bits)
	return fromBig(n.Add(n, big.NewInt(more)))
}

// ones returns n bytes 255.
func ones(n int) api.Nat {
	return api.Nat(strings.Repeat("\xff", n))
}

// invalid returns strings that are not canonical.
func invalid() []api.Nat {
	return []api.Nat{"\x00", "\x00\x01", "\x00" + ones(128), "\x01" + ones(128), ones(129), ones(1000)}
}

// malformed returns tapes that are not well-formed.
func malformed() []api.Tape {
	out := []api.Tape{
		{At: -1}, {At: math.MinInt}, {At: math.MaxInt32 + 1}, {At: math.MaxInt},
		{Seed: "a", At: -1}, {Seed: "a", At: math.MaxInt32 + 1}, {Values: nats(1, 2), At: -1}, {Values: nats(1, 2), At: math.MaxInt32 + 1},
	}
	for _, bad := range invalid() {
		out = append(out,
			api.Tape{Values: []api.Nat{bad}}, api.Tape{Values: []api.Nat{"\x01", "\x02", bad}}, api.Tape{Values: []api.Nat{bad, "\x01"}, At: 1},
			api.Tape{Values: []api.Nat{bad}, Seed: "a"}, api.Tape{Values: []api.Nat{bad}, Seed: "a", At: 1}, api.Tape{Values: []api.Nat{bad}, At: 100})
	}
	return out
}

// bounds returns bounds beside the limits of bytes, of codes and of canonical strings.
func bounds() []api.Nat {
	out := nats(1, 2, 3, 4, 5, 7, 10, 100, 1000, 65521, 1000000007)
	for _, bits := range []uint{7, 8, 9, 15, 16, 17, 63, 64, 65, 255, 256, 257, 511, 512, 513, 768, 1016, 1023} {
		out = append(out, power(bits, -1), power(bits, 0), power(bits, 1))
	}
	return append(out, ones(128), ones(127), ones(127)+"\xfe")
}

// seeds returns seeds of several lengths.
func seeds() []string {
	return []string{"a", "a seed", "\x00", "\x00\x00\xff", strings.Repeat("x", 64), strings.Repeat("x", 65), strings.Repeat("long ", 1000)}
}

// reference returns the coin below n that a seed yields at a position, as the document defines it.
func reference(seed string, at int, n api.Nat) api.Nat {
	bits := toBig(n).BitLen()
	size := (bits + 7) / 8
	mask := new(big.Int).Sub(toBig(power(uint(bits), 0)), big.NewInt(1))
	for a := range 256 {
		var all []byte
		for b := range (size + 31) / 32 {
			h := hmac.New(sha256.New, []byte(seed))
			fmt.Fprintf(h, "%d.%d.%d", at, a, b)
			all = h.Sum(all)
		}
		r := new(big.Int).SetBytes(all[:size])
		if r.And(r, mask).Cmp(toBig(n)) < 0 {
			return fromBig(r)
		}
	}
	panic("no candidate is below the bound")
}

// same reports whether two tapes are equal.
func same(a, b api.Tape) bool {
	return slices.Equal(a.Values, b.Values) && a.Seed == b.Seed && a.At == b.At
}

// expect checks the coin that a draw from a tape returned, and the tape behind it.
func expect(t *testing.T, what string, tape api.Tape, got api.Nat, next api.Tape, err api.Errno, wanted api.Nat) {
	t.Helper()
	if got != wanted || err != api.OK {
		t.Fatalf("%s from %x: got %x and error %d, want %x", what, tape, got, err, wanted)
	}
	if !same(next, api.Tape{Values: tape.Values, Seed: tape.Seed, At: tape.At + 1}) {
		t.Fatalf("%s from %x: the tape behind the coin is %x", what, tape, next)
	}
}

// refused checks that Below, Signed and Many return an error beside zero values; Signed is called with its own bound, and Many draws one coin.
func refused(t *testing.T, tape api.Tape, n, bound api.Nat, wanted api.Errno) {
	t.Helper()
	if x, next, err := Below(tape, n); x != "" || !same(next, api.Tape{}) || err != wanted {
		t.Errorf("Below from %.40x, bound %.40x: got %x, %x and error %d, want error %d", tape, n, x, next, err, wanted)
	}
	if x, next, err := Signed(tape, bound); x != (api.Int{}) || !same(next, api.Tape{}) || err != wanted {
		t.Errorf("Signed from %.40x, bound %.40x: got %v, %x and error %d, want error %d", tape, bound, x, next, err, wanted)
	}
	refusedMany(t, tape, n, 1, wanted)
}

// refusedMany checks that Many returns an error beside zero values.
func refusedMany(t *testing.T, tape api.Tape, n api.Nat, count int, wanted api.Errno) {
	t.Helper()
	if l, next, err := Many(tape, n, count); len(l) != 0 || !same(next, api.Tape{}) || err != wanted {
		t.Errorf("Many from %.40x, bound %.40x, count %d: got %x, %x and error %d, want error %d", tape, n, count, l, next, err, wanted)
	}
}
