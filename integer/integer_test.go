package integer

import (
	"math"
	"math/big"
	"testing"

	"domino/api"
)

// P2.1.
func TestOfAndSmall(t *testing.T) {
	for _, n := range []int64{0, 1, -1, 2, -2, 127, 255, -255, 256, -256, 65535, 1 << 31, -1 << 31, 1 << 62, -1 << 62, math.MaxInt64 - 1, math.MaxInt64, -math.MaxInt64, math.MinInt64} {
		a := Of(n)
		if a != fromBig(big.NewInt(n)) {
			t.Errorf("Of(%d): got %v", n, a)
		}
		if got, ok := Small(a); got != n || !ok {
			t.Errorf("Small(%v): got %d and %v, want %d", a, got, ok, n)
		}
	}
}

// P2.1.
func TestSmallOfOtherIntegers(t *testing.T) {
	others := append(invalid(),
		api.Int{Abs: long(0x80, 8)}, api.Int{Abs: ones(8)}, api.Int{Abs: long(1, 9)}, api.Int{Abs: ones(128)},
		api.Int{Neg: true, Abs: long(0x80, 7) + "\x01"}, api.Int{Neg: true, Abs: ones(8)}, api.Int{Neg: true, Abs: long(1, 9)})
	for _, a := range others {
		if n, ok := Small(a); n != 0 || ok {
			t.Errorf("Small(%v): got %d and %v, want 0 and false", a, n, ok)
		}
	}
}

// P2.1.
func TestValid(t *testing.T) {
	for _, a := range edges() {
		if !Valid(a) {
			t.Errorf("Valid(%v): got false", a)
		}
	}
	for _, a := range invalid() {
		if Valid(a) {
			t.Errorf("Valid(%v): got true", a)
		}
	}
}

// P2.1.
func TestFrom(t *testing.T) {
	for _, a := range edgeNats() {
		if got := From(a); got != (api.Int{Abs: a}) {
			t.Errorf("From(%x): got %v", a, got)
		}
	}
	for _, a := range invalidNats() {
		if got := From(a); got != (api.Int{}) {
			t.Errorf("From(%x): got %v, want 0", a, got)
		}
	}
}

// P2.1.
func TestNeg(t *testing.T) {
	for _, a := range edges() {
		if got := Neg(a); got != fromBig(new(big.Int).Neg(toBig(a))) {
			t.Errorf("Neg(%v): got %v", a, got)
		}
	}
	for _, a := range invalid() {
		if got := Neg(a); got != (api.Int{}) {
			t.Errorf("Neg(%v): got %v, want 0", a, got)
		}
	}
}

// P2.1 and P2.5.
func TestCmp(t *testing.T) {
	pairs(func(a, b api.Int) {
		got := Cmp(a, b)
		if wanted := toBig(a).Cmp(toBig(b)); got != wanted {
			t.Fatalf("Cmp of %v and %v: got %d, want %d", toBig(a), toBig(b), got, wanted)
		}
		if got != -Cmp(b, a) {
			t.Fatalf("Cmp of %v and %v is not opposite to that of the pair turned round", toBig(a), toBig(b))
		}
		if d, err := Sub(a, b); err == api.OK && got != toBig(d).Sign() {
			t.Fatalf("Cmp of %v and %v is not the sign of the difference", toBig(a), toBig(b))
		}
	})
	for _, a := range invalid() {
		for _, b := range []api.Int{{}, Of(1), Of(-1), {Abs: ones(128)}, a} {
			if Cmp(a, b) != 0 || Cmp(b, a) != 0 {
				t.Errorf("Cmp of %v and %v, or the other way round, is not 0", a, b)
			}
		}
	}
}
