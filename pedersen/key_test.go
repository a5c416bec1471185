package pedersen

import (
	"crypto/sha256"
	"math/big"
	"strconv"
	"testing"

	"domino/api"
)

// P14.1: all small numbers.
func TestCheckSmall(t *testing.T) {
	for p := range uint64(20) {
		for q := range uint64(20) {
			for g := range p + 2 {
				for h := range p + 2 {
					wanted := api.ErrGroup
					if wellFormed(key(p, q, g, h)) {
						wanted = api.OK
					}
					if err := Check(key(p, q, g, h)); err != wanted {
						t.Fatalf("Check of %d, %d, %d, %d: got error %d, want %d", p, q, g, h, err, wanted)
					}
				}
			}
		}
	}
}

// P14.1.
func TestCheckOfKeys(t *testing.T) {
	for _, k := range keys() {
		if err := Check(k); err != api.OK {
			t.Errorf("Check of %x: got error %d", k, err)
		}
	}
	for _, k := range misformed() {
		if err := Check(k); err != api.ErrGroup {
			t.Errorf("Check of %x: got error %d", k, err)
		}
	}
	for _, k := range invalidKeys() {
		if err := Check(k); err != api.ErrForm {
			t.Errorf("Check of %.40x: got error %d", k, err)
		}
	}
}

// hashed returns an element that is determined by a label, by the definition of layer 9; 0 if there is none.
func hashed(g api.Group, label string) *big.Int {
	p := toBig(g.Modulus)
	exponent := new(big.Int).Sub(p, big.NewInt(1))
	exponent.Div(exponent, toBig(g.Order))
	for counter := range 64 {
		sum := sha256.Sum256([]byte(strconv.Itoa(counter) + ":" + label))
		x := new(big.Int).SetBytes(sum[:])
		if x.Exp(x, exponent, p).Cmp(big.NewInt(1)) > 0 {
			return x
		}
	}
	return new(big.Int)
}

// referenceNew returns what New should return for a well-formed group with an order.
func referenceNew(g api.Group, label string) (api.Pedersen, api.Errno) {
	first := hashed(g, label+".G")
	for counter := 0; counter < 64; counter++ {
		second := hashed(g, label+".H"+strconv.Itoa(counter))
		if first.Sign() == 0 || second.Sign() == 0 {
			return api.Pedersen{}, api.ErrGroup
		}
		if first.Cmp(second) != 0 {
			return api.Pedersen{Group: g, G: fromBig(first), H: fromBig(second)}, api.OK
		}
	}
	return api.Pedersen{}, api.ErrNone
}

// P14.1.
func TestNew(t *testing.T) {
	groups := []api.Group{group(7, 3), group(31, 5), group(23, 11), group(23, 2), group(3, 2), group(65537, 2), group(1187, 593), group(18446744073709551557, 5594472617641), second()}
	composite := []api.Group{group(9, 2), group(16, 15), group(16, 5), group(561, 2), group(561, 7), group(23, 22), group(294409, 1363)}
	for _, g := range append(groups, composite...) {
		for i := range 100 {
			label := strconv.Itoa(i * i * i)
			wanted, wantedErr := referenceNew(g, label)
			k, err := New(g, label)
			if k != wanted || err != wantedErr {
				t.Fatalf("New of %x with the label %q: got %x and error %d, want %x and error %d", g, label, k, err, wanted, wantedErr)
			}
		}
	}
	for _, g := range groups {
		if k, err := New(g, "a label"); err == api.OK && Check(k) != api.OK {
			t.Errorf("New returns the key %x, which is not well-formed", k)
		}
	}
}

// P14.1: keys that were calculated with another program.
func TestNewOfKnownKeys(t *testing.T) {
	for _, c := range []struct {
		label  string
		wanted api.Pedersen
	}{
		{"", key(23, 11, 8, 18)}, {"a", key(23, 11, 4, 6)}, {"domino", key(23, 11, 8, 3)},
		{"", key(7, 3, 2, 4)}, {"a", key(7, 3, 4, 2)}, {"", key(31, 5, 2, 16)}, {"domino", key(31, 5, 16, 8)}, {"domino", key(1187, 593, 357, 430)},
		{"", key(18446744073709551557, 5594472617641, 5750249870926279285, 11082622248386650124)},
		{"a label", key(18446744073709551557, 5594472617641, 16707000705174350219, 5407617574896090429)},
		{"a label", labelled()},
	} {
		k, err := New(c.wanted.Group, c.label)
		expect(t, "New", c.wanted, k, err, c.wanted)
	}
}

// P14.1: there are 64 counters. Most labels have the same element in these groups, whose Modulus is composite.
func TestCountersOfNew(t *testing.T) {
	g := group(52633, 43)
	for _, label := range []string{"7549", "48392"} { // the first counters with another element are 62 and 63
		k, err := New(g, label)
		expect(t, "the last counters", k, k, err, key(52633, 43, 45115, 46866))
	}
	k, err := New(g, "12172") // the first counter would be 64
	refused(t, "too many counters", key(52633, 43, 0, 0), k, err, api.ErrNone)
	for _, g := range []api.Group{group(3, 2), group(7, 2), group(65537, 2)} {
		k, err := New(g, "a label")
		refused(t, "only one generator", api.Pedersen{Group: g}, k, err, api.ErrNone)
	}
}

// P14.1: the error of primegroup.Hash for G, and for H with each of the first counters.
func TestNewWithoutElements(t *testing.T) {
	g := group(294409, 1363)
	for _, label := range []string{"105", "20", "43", "13", "379", "497", "1089"} {
		k, err := New(g, label)
		refused(t, "no element", api.Pedersen{Group: g}, k, err, api.ErrGroup)
	}
	modulus, _ := new(big.Int).SetString("23353635090086210521", 10)
	g = api.Group{Modulus: fromBig(modulus), Order: nat(2474394804271)}
	k, err := New(g, "a label")
	refused(t, "no element", api.Pedersen{Group: g}, k, err, api.ErrGroup)
}

// P14.1: ErrForm comes first, then the group, then ErrArg.
func TestNewErrors(t *testing.T) {
	for _, bad := range invalid() {
		for _, g := range []api.Group{{Modulus: bad}, {Modulus: bad, Order: nat(11)}, {Modulus: nat(23), Order: bad}, {Order: bad}, {Modulus: bad, Order: bad}} {
			k, err := New(g, "a label")
			refused(t, "New", api.Pedersen{Group: g}, k, err, api.ErrForm)
		}
	}
	for _, g := range []api.Group{{}, group(8, 0), group(78, 0), group(7, 0), group(0, 11), group(1, 11), group(23, 1), group(23, 10), group(2, 1)} {
		k, err := New(g, "a label")
		refused(t, "New", api.Pedersen{Group: g}, k, err, api.ErrGroup)
	}
	for _, g := range []api.Group{group(9, 0), group(77, 0), {Modulus: ones(128)}} {
		k, err := New(g, "a label")
		refused(t, "New", api.Pedersen{Group: g}, k, err, api.ErrArg)
	}
}
