package rsagroup

import (
	"math"
	"math/big"
	"math/rand"
	"slices"
	"testing"

	"domino/api"
	"domino/coins"
)

// moduli returns the moduli of groups of unknown order of several lengths.
func moduli() []api.Nat {
	list := []api.Nat{nat(9), nat(11), nat(15), nat(77), nat(255), nat(257), nat(3 * 5 * 7 * 11 * 13), ones(8), ones(16), ones(127), ones(128), ones(127) + "\xfd"}
	for _, d := range large() {
		list = append(list, groupOf(d).Modulus)
	}
	return list
}

// P10.1: all small numbers.
func TestHasSmall(t *testing.T) {
	for n := range uint64(110) {
		for x := range n + 5 {
			wanted := n > 8 && n%2 == 1 && isUnit(new(big.Int).SetUint64(x), new(big.Int).SetUint64(n))
			if got := Has(unknown(n), nat(x)); got != wanted {
				t.Fatalf("Has of %d modulo %d: got %v", x, n, got)
			}
			for _, order := range []api.Nat{nat(1), nat(5), nat(11)} {
				if Has(api.Group{Modulus: nat(n), Order: order}, nat(x)) {
					t.Fatalf("%d is an element of a group with the order %x", x, order)
				}
			}
		}
	}
}

// P10.1.
func TestHasLong(t *testing.T) {
	r := rand.New(rand.NewSource(3))
	for _, m := range moduli() {
		n := toBig(m)
		list := []*big.Int{new(big.Int), big.NewInt(1), big.NewInt(2), big.NewInt(3), new(big.Int).Sub(n, big.NewInt(1)), n, new(big.Int).Add(n, big.NewInt(1)), toBig(ones(128))}
		for range 30 {
			x := new(big.Int).Rand(r, n)
			list = append(list, x, new(big.Int).Mul(x, big.NewInt(3)), new(big.Int).GCD(nil, nil, n, x))
		}
		for _, x := range list {
			if got := Has(api.Group{Modulus: m}, fromBig(x)); x.BitLen() <= 1024 && got != isUnit(x, n) {
				t.Errorf("Has of %x modulo %x: got %v", x, n, got)
			}
		}
	}
}

// P10.1.
func TestHasOfNumbersThatAreNotCanonical(t *testing.T) {
	for _, bad := range invalid() {
		for _, x := range []api.Nat{"", nat(1), nat(2), bad} {
			for _, g := range []api.Group{{Modulus: bad}, {Modulus: nat(77), Order: bad}, {Modulus: bad, Order: bad}, {Order: bad}} {
				if Has(g, x) {
					t.Errorf("%.20x is an element of %.20x", x, g)
				}
			}
		}
		for _, g := range []api.Group{unknown(77), {Modulus: ones(128)}, {}} {
			if Has(g, bad) {
				t.Errorf("%.20x is an element of %.20x", bad, g)
			}
		}
	}
}

// P10.4: products of elements are elements.
func TestElementsAreClosed(t *testing.T) {
	for n := uint64(9); n < 120; n += 2 {
		for _, x := range units(n) {
			for _, y := range units(n) {
				if !Has(unknown(n), nat(x*y%n)) {
					t.Fatalf("modulo %d: %d * %d is no element", n, x, y)
				}
			}
		}
	}
}

// drawn checks that Square returns the square of a coin, and the tape at a position.
func drawn(t *testing.T, g api.Group, tape api.Tape, x api.Nat, at int) {
	t.Helper()
	wanted := fromBig(new(big.Int).Exp(toBig(x), big.NewInt(2), toBig(g.Modulus)))
	got, next, err := Square(g, tape)
	if got != wanted || err != api.OK {
		t.Errorf("Square modulo %x from %.60x: got %x and error %d, want %x", g.Modulus, tape, got, err, wanted)
	}
	if !slices.Equal(next.Values, tape.Values) || next.Seed != tape.Seed || next.At != at {
		t.Errorf("Square modulo %x from %.60x: got the tape %.60x, want At %d", g.Modulus, tape, next, at)
	}
}

// notDrawn checks that Square returns an error beside zero values.
func notDrawn(t *testing.T, what string, g api.Group, tape api.Tape, wanted api.Errno) {
	t.Helper()
	x, next, err := Square(g, tape)
	if x != "" || len(next.Values) > 0 || next.Seed != "" || next.At != 0 || err != wanted {
		t.Errorf("%s: got %x, the tape %.60x and error %d, want error %d", what, x, next, err, wanted)
	}
}

// P10.3: explicit coins.
func TestSquareOfValues(t *testing.T) {
	g := unknown(77)
	for x := range uint64(77) {
		if isUnit(new(big.Int).SetUint64(x), big.NewInt(77)) {
			drawn(t, g, coins.Values(nat(x)), nat(x), 1)
			drawn(t, g, coins.Values(nats(0, 14, x, 5)...), nat(x), 3)
			drawn(t, g, api.Tape{Values: nats(3, 22, x, 77), Seed: "a", At: 1}, nat(x), 3)
		} else {
			drawn(t, g, coins.Values(nats(x, 5)...), nat(5), 2)
			notDrawn(t, "no element", g, coins.Values(nat(x)), api.ErrCoins)
		}
	}
	drawn(t, unknown(9), coins.Values(nats(0, 3, 6, 8)...), nat(8), 4)
	drawn(t, api.Group{Modulus: ones(128)}, coins.Values(ones(127)+"\xfe"), nat(1), 1)
	drawn(t, unknown(77), api.Tape{Values: nats(76), Seed: "a", At: 0}, nat(76), 1)
}

// P10.3: coins from seeds.
func TestSquareOfSeeds(t *testing.T) {
	for _, m := range moduli() {
		for _, seed := range []string{"a", "b", "c", "d", "e", "f"} {
			for _, start := range []api.Tape{coins.Seed(seed), {Seed: seed, At: 1000}, {Values: []api.Nat{"", ""}, Seed: seed}} {
				x, tape, _ := coins.Below(start, m)
				for !isUnit(toBig(x), toBig(m)) {
					x, tape, _ = coins.Below(tape, m)
				}
				drawn(t, api.Group{Modulus: m}, start, x, tape.At)
			}
		}
	}
}

// P10.3: at most 64 coins are drawn.
func TestSquareTries(t *testing.T) {
	g := unknown(77)
	for count := range 70 {
		tape := coins.Values(append(make([]api.Nat, count), nat(3))...)
		if count < 64 {
			drawn(t, g, tape, nat(3), count+1)
		} else {
			notDrawn(t, "too many tries", g, tape, api.ErrCoins)
		}
	}
	notDrawn(t, "64 tries and a coin that is too great", g, coins.Values(append(make([]api.Nat, 64), nat(99))...), api.ErrCoins)
	notDrawn(t, "63 tries and a coin that is too great", g, coins.Values(append(make([]api.Nat, 63), nat(99))...), api.ErrRange)
}

// P10.3: the order of the errors.
func TestSquareErrors(t *testing.T) {
	for _, tape := range malformed() {
		for _, g := range []api.Group{unknown(77), unknown(78), {}, {Modulus: nat(77), Order: nat(5)}, {Modulus: "\x00"}} {
			notDrawn(t, "a tape that is not well-formed", g, tape, api.ErrForm)
		}
	}
	for _, tape := range []api.Tape{{}, coins.Seed("a"), coins.Values(nats(99)...), coins.Values(nats(3)...)} {
		for _, bad := range invalid() {
			for _, g := range []api.Group{{Modulus: bad}, {Modulus: nat(77), Order: bad}, {Modulus: bad, Order: nat(5)}, {Modulus: nat(78), Order: bad}} {
				notDrawn(t, "a number that is not canonical", g, tape, api.ErrForm)
			}
		}
		for _, g := range []api.Group{{}, unknown(1), unknown(7), unknown(8), unknown(78), {Modulus: nat(77), Order: nat(5)}, {Modulus: nat(77), Order: ones(128)}} {
			notDrawn(t, "no group of unknown order", g, tape, api.ErrGroup)
		}
	}
	g := unknown(77)
	notDrawn(t, "the modulus as coin", g, coins.Values(nat(77)), api.ErrRange)
	notDrawn(t, "the modulus as second coin", g, coins.Values(nats(0, 77, 5)...), api.ErrRange)
	notDrawn(t, "a coin behind the modulus", g, coins.Values(nat(78)), api.ErrRange)
	notDrawn(t, "no coins", g, api.Tape{}, api.ErrCoins)
	notDrawn(t, "no coins left", g, api.Tape{Values: nats(3), At: 1}, api.ErrCoins)
	notDrawn(t, "no second coin", g, coins.Values(nat(0)), api.ErrCoins)
	notDrawn(t, "the end of a tape", g, api.Tape{Seed: "a", At: math.MaxInt32}, api.ErrCoins)
}

// P10.3: the tape behind the coins has values of its own.
func TestSquareSharesNoMemory(t *testing.T) {
	tape := api.Tape{Values: append(make([]api.Nat, 0, 8), nats(0, 2, 3)...)}
	_, next, _ := Square(unknown(77), tape)
	next.Values[2] = nat(7)
	_ = append(next.Values, nat(8))
	if !slices.Equal(tape.Values[:4], append(nats(0, 2, 3), "")) || tape.At != 0 {
		t.Errorf("the argument has changed to %x", tape)
	}
	tape.Values[0] = nat(9)
	if next.Values[0] != "" {
		t.Error("the tape behind the coins has changed")
	}
}

// logarithm checks a result of Log; a negative one says that there is none.
func logarithm(t *testing.T, g api.Group, base, x api.Nat, most, wanted int) {
	t.Helper()
	k, ok := Log(g, base, x, most)
	if ok != (wanted >= 0) || k != max(wanted, 0) {
		t.Fatalf("Log of %x to the base %x, at most %d, modulo %x: got %d and %v, want %d", x, base, most, g.Modulus, k, ok, wanted)
	}
}

// P10.3: all numbers.
func TestLogSmall(t *testing.T) {
	for n := range uint64(40) {
		g := unknown(n)
		for base := range n + 2 {
			var list []uint64
			if Has(g, nat(base)) {
				list = powers(base, n)
			}
			for x := range n + 2 {
				first := slices.Index(list, x)
				for _, most := range []int{-1, 0, 1, first - 1, first, first + 1, int(n), 100000} {
					wanted := first
					if first > most {
						wanted = -1
					}
					logarithm(t, g, nat(base), nat(x), most, wanted)
				}
			}
		}
	}
}

// P10.3.
func TestLogExamplesAndBounds(t *testing.T) {
	g := unknown(77)
	logarithm(t, g, nat(4), nat(64), 3, 3)
	logarithm(t, g, nat(4), nat(64), 2, -1)
	logarithm(t, g, nat(4), nat(64), math.MaxInt, 3)
	logarithm(t, g, nat(4), nat(2), math.MaxInt, -1)
	logarithm(t, g, nat(4), nat(7), math.MaxInt, -1)
	logarithm(t, g, nat(7), nat(49), math.MaxInt, -1) // 7^2 is 49, but both are no elements
	logarithm(t, g, nat(7), nat(1), math.MaxInt, -1)
	logarithm(t, g, nat(81), nat(4), math.MaxInt, -1)
	logarithm(t, g, nat(1), nat(1), 0, 0)
	for _, most := range []int{-1, -65536, math.MinInt, math.MinInt + 1} {
		logarithm(t, g, nat(4), nat(1), most, -1)
	}
	for _, bad := range invalid() {
		logarithm(t, g, bad, nat(1), 10, -1)
		logarithm(t, g, nat(4), bad, 10, -1)
		logarithm(t, api.Group{Modulus: bad}, nat(1), nat(1), 10, -1)
		logarithm(t, api.Group{Modulus: nat(77), Order: bad}, nat(1), nat(1), 10, -1)
	}
	for _, none := range []api.Group{{}, unknown(7), unknown(78), {Modulus: nat(77), Order: nat(5)}, {Modulus: nat(23), Order: nat(11)}} {
		logarithm(t, none, nat(1), nat(1), 10, -1)
	}
}

// P10.3: a greater most than 65536 counts as 65536; all these bases have more powers.
func TestLogLimit(t *testing.T) {
	for _, c := range []struct {
		g    api.Group
		base api.Nat
	}{{unknown(65539), nat(2)}, {groupOf(large()[0]), nat(2)}, {groupOf(large()[3]), nat(4)}, {api.Group{Modulus: ones(128)}, nat(7)}} {
		for _, e := range []int{0, 1, 65535, 65536} {
			x := raised(c.g, c.base, nat(uint64(e)))
			for _, most := range []int{e, 65536, 65537, math.MaxInt} {
				logarithm(t, c.g, c.base, x, most, e)
			}
			logarithm(t, c.g, c.base, x, e-1, -1)
		}
		x := raised(c.g, c.base, nat(65537))
		for _, most := range []int{65535, 65536, 65537, math.MaxInt} {
			logarithm(t, c.g, c.base, x, most, -1)
		}
	}
}
