package primegroup

import (
	"crypto/sha256"
	"fmt"
	"math/big"
	"strings"
	"testing"

	"domino/api"
)

// labelled returns the element of a label by the definition, and its counter; false if there is none.
func labelled(g api.Group, label string) (*big.Int, int, bool) {
	p, one := toBig(g.Modulus), big.NewInt(1)
	exponent := new(big.Int).Sub(p, one)
	exponent.Div(exponent, toBig(g.Order))
	for counter := range 64 {
		sum := sha256.Sum256(fmt.Appendf(nil, "%d:%s", counter, label))
		x := new(big.Int).SetBytes(sum[:])
		if x.Exp(x.Mod(x, p), exponent, p).Cmp(one) > 0 {
			return x, counter, true
		}
	}
	return nil, 0, false
}

// P9.2: elements that were calculated elsewhere.
func TestHashOfKnownLabels(t *testing.T) {
	labels := []string{"", "a", "label", "G", "\x00\xff", "é", strings.Repeat("x", 200)}
	for _, c := range []struct {
		g      api.Group
		wanted []int64
	}{
		{group(3, 2), []int64{2, 2, 2, 2, 2, 2, 2}},
		{group(7, 3), []int64{2, 2, 4, 4, 2, 4, 4}},
		{group(23, 11), []int64{3, 16, 18, 12, 3, 4, 8}},
		{group(23, 2), []int64{22, 22, 22, 22, 22, 22, 22}},
		{group(917519, 65537), []int64{384511, 165920, 304808, 171202, 787985, 681756, 572292}},
	} {
		for i, wanted := range c.wanted {
			x, err := Hash(c.g, labels[i])
			expect(t, "Hash of "+labels[i], c.g, x, err, big.NewInt(wanted))
		}
	}
	x, err := Hash(second(), "label")
	expect(t, "Hash of a label", second(), x, err, toBig(hexadecimal("99c1b9ecd2275888ec46e658f7fdc94f33bc1f0638abc2f44061e8272f6978fe"+
		"a22b3cfe0afdc74bc47269fcec4a8a7f3128554f6799ffe6fc1486a4ca025e10")))
}

// P9.2.
func TestHash(t *testing.T) {
	for _, g := range groups() {
		used := map[int]bool{}
		for i := range 40 {
			label := strings.Repeat("l", i) + fmt.Sprint(i)
			wanted, counter, _ := labelled(g, label)
			x, err := Hash(g, label)
			expect(t, "Hash of "+label, g, x, err, wanted)
			if !IsGenerator(g, x) {
				t.Errorf("Hash of %s in the group %x is no generator", label, g)
			}
			used[counter] = true
		}
		if toBig(g.Order).Cmp(big.NewInt(3)) <= 0 && len(used) < 3 {
			t.Errorf("only the counters %v were needed in the group %x", used, g)
		}
	}
}

// P9.2: a hash whose first byte is 0.
func TestHashOfShortNumbers(t *testing.T) {
	const label = "392"
	if sum := sha256.Sum256([]byte("0:" + label)); sum[0] != 0 {
		t.Fatal("the hash is not short")
	}
	for _, g := range groups() {
		wanted, _, _ := labelled(g, label)
		x, err := Hash(g, label)
		expect(t, "Hash of "+label, g, x, err, wanted)
	}
}

// P9.2: also in groups that are not valid.
func TestHashSmall(t *testing.T) {
	for p := uint64(1); p < 60; p++ {
		for q := uint64(1); q < 60; q++ {
			g := group(p, q)
			for _, label := range []string{"a", "b", "c"} {
				x, err := Hash(g, label)
				if wanted, _, ok := labelled(g, label); ok && (p-1)%q == 0 {
					expect(t, "Hash of "+label, g, x, err, wanted)
				} else {
					refused(t, "Hash of "+label, g, x, err, api.ErrGroup)
				}
			}
		}
	}
}

// P9.2: only the counters from 0 to 63 are used. In this group, whose modulus is a Carmichael number, few of them yield an element.
func TestHashCounters(t *testing.T) {
	g := group(211*421*631, 1)
	for label, wanted := range map[string]int64{"376": 27626442, "381": 27893356, "600": 532565} {
		x, err := Hash(g, label)
		expect(t, "Hash of "+label, g, x, err, big.NewInt(wanted))
		if _, counter, _ := labelled(g, label); counter < 62 {
			t.Errorf("label %s: the counter is %d", label, counter)
		}
	}
	for _, label := range []string{"332", "351", "527"} { // the counter 64 would yield an element
		x, err := Hash(g, label)
		refused(t, "Hash of "+label, g, x, err, api.ErrGroup)
	}
}

// P9.2: the order of the errors.
func TestHashErrors(t *testing.T) {
	for _, bad := range invalid() {
		for _, other := range []api.Nat{"", nat(1), nat(11), bad} {
			for _, g := range []api.Group{{Modulus: bad, Order: other}, {Modulus: other, Order: bad}} {
				x, err := Hash(g, "label")
				refused(t, "Hash", g, x, err, api.ErrForm)
			}
		}
	}
	for _, g := range []api.Group{{}, group(0, 11), group(23, 0), group(1, 0), {Order: ones(128)}, {Modulus: ones(128)}} {
		x, err := Hash(g, "label")
		refused(t, "Hash", g, x, err, api.ErrZero)
	}
	for _, g := range []api.Group{
		group(23, 7), group(23, 23), group(23, 44), {Modulus: nat(23), Order: ones(128)}, {Modulus: ones(128), Order: nat(4)},
		group(2, 1), group(1, 1), group(1, 5), group(3, 1), group(23, 1), // 1 is their only element
	} {
		x, err := Hash(g, "label")
		refused(t, "Hash", g, x, err, api.ErrGroup)
	}
}
