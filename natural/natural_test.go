package natural

import (
	"math"
	"math/big"
	"testing"

	"domino/api"
)

// P1.1.
func TestOf(t *testing.T) {
	for _, c := range []struct {
		n uint64
		a api.Nat
	}{
		{0, ""}, {1, "\x01"}, {255, "\xff"}, {256, "\x01\x00"}, {258, "\x01\x02"}, {65536, "\x01\x00\x00"},
		{1 << 56, "\x01\x00\x00\x00\x00\x00\x00\x00"}, {0x0102030405060708, "\x01\x02\x03\x04\x05\x06\x07\x08"},
		{math.MaxUint64, ones(8)},
	} {
		if got := Of(c.n); got != c.a {
			t.Errorf("Of(%d): got %x, want %x", c.n, got, c.a)
		}
		if n, ok := Small(c.a); n != c.n || !ok {
			t.Errorf("Small(%x): got %d and %v, want %d", c.a, n, ok, c.n)
		}
	}
}

// P1.1.
func TestSmallOfOtherStrings(t *testing.T) {
	for _, a := range append(invalid(), long(1, 9), ones(9), ones(128), "\x00"+ones(7), "\x00"+ones(8)) {
		if n, ok := Small(a); n != 0 || ok {
			t.Errorf("Small(%x): got %d and %v, want 0 and false", a, n, ok)
		}
	}
}

// P1.1.
func TestValid(t *testing.T) {
	for _, a := range edges() {
		if !Valid(a) {
			t.Errorf("Valid(%x): got false", a)
		}
	}
	for _, a := range invalid() {
		if Valid(a) {
			t.Errorf("Valid(%x): got true", a)
		}
	}
}

// P1.1.
func TestCmp(t *testing.T) {
	pairs(func(a, b api.Nat) {
		if got, wanted := Cmp(a, b), toBig(a).Cmp(toBig(b)); got != wanted {
			t.Fatalf("Cmp(%x, %x): got %d, want %d", a, b, got, wanted)
		}
	})
	for _, a := range invalid() {
		for _, b := range []api.Nat{"", "\x01", ones(128), a, "\x00"} {
			if Cmp(a, b) != 0 || Cmp(b, a) != 0 {
				t.Errorf("Cmp of %x and %x, or the other way round, is not 0", a, b)
			}
		}
	}
}

// P1.1.
func TestBits(t *testing.T) {
	for _, a := range edges() {
		n := toBig(a)
		if got := Bits(a); got != n.BitLen() {
			t.Errorf("Bits(%x): got %d, want %d", a, got, n.BitLen())
		}
		for i := range 1040 {
			if got := Bit(a, i); got != (n.Bit(i) == 1) {
				t.Errorf("Bit(%x, %d): got %v", a, i, got)
			}
		}
	}
}

// P1.1.
func TestBitsThatDoNotExist(t *testing.T) {
	for _, i := range []int{-1, -7, -8, -9, math.MinInt, 1024, 1 << 20, math.MaxInt} {
		if Bit(ones(128), i) {
			t.Errorf("Bit %d of a number of 1024 bits: got true", i)
		}
	}
	for _, a := range invalid() {
		if got := Bits(a); got != 0 {
			t.Errorf("Bits(%x): got %d, want 0", a, got)
		}
		for _, i := range []int{-1, 0, 1, 7, 8, 1023, 1024, math.MaxInt} {
			if Bit(a, i) {
				t.Errorf("Bit(%x, %d): got true", a, i)
			}
		}
	}
}

// P1.4.
func TestNumberIsSumOfItsBits(t *testing.T) {
	for _, a := range edges() {
		sum := new(big.Int)
		for i := range Bits(a) {
			if Bit(a, i) {
				sum.Add(sum, new(big.Int).Lsh(big.NewInt(1), uint(i)))
			}
		}
		if fromBig(sum) != a {
			t.Errorf("the sum of the bits of %x is %x", a, fromBig(sum))
		}
		if a != "" && !Bit(a, Bits(a)-1) {
			t.Errorf("the highest bit of %x is not 1", a)
		}
	}
}
