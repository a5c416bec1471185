package primegroup

import (
	"math"
	"math/big"
	"slices"
	"testing"

	"domino/api"
	"domino/integer"
)

// cycle returns the powers of an element by the definition, until 1 comes again.
func cycle(g api.Group, base api.Nat) []api.Nat {
	list := []api.Nat{nat(1)}
	for x := toBig(base); x.Cmp(big.NewInt(1)) != 0; x.Mod(x.Mul(x, toBig(base)), toBig(g.Modulus)) {
		list = append(list, fromBig(x))
	}
	return list
}

// long returns a group, whose order need not be prime, and an element of it with exactly that many powers.
func long(powers int64) (api.Group, api.Nat) {
	for k := int64(1); ; k++ {
		p := big.NewInt(powers*k + 1)
		if !p.ProbablyPrime(0) {
			continue
		}
		g := api.Group{Modulus: fromBig(p), Order: nat(uint64(powers))}
		for x := int64(2); ; x++ {
			base := fromBig(new(big.Int).Exp(big.NewInt(x), big.NewInt(k), p))
			if len(cycle(g, base)) == int(powers) {
				return g, base
			}
		}
	}
}

// P9.3: all numbers, also in groups that are not valid.
func TestElementsSmall(t *testing.T) {
	for p := range uint64(34) {
		for q := range uint64(34) {
			g := group(p, q)
			for base := range p + 3 {
				var wanted []api.Nat
				if Has(g, nat(base)) {
					wanted = cycle(g, nat(base))
				}
				if got := slices.Collect(Elements(g, nat(base))); !slices.Equal(got, wanted) {
					t.Fatalf("the powers of %d in the group %x: got %x, want %x", base, g, got, wanted)
				}
			}
		}
	}
}

// P9.3.
func TestElementsExample(t *testing.T) {
	var wanted []api.Nat
	for _, x := range []uint64{1, 4, 16, 18, 3, 12, 2, 8, 9, 13, 6} {
		wanted = append(wanted, nat(x))
	}
	if got := slices.Collect(Elements(group(23, 11), nat(4))); !slices.Equal(got, wanted) {
		t.Errorf("got %x", got)
	}
}

// P9.3: nothing is yielded for a base that is not an element.
func TestElementsOfNoElement(t *testing.T) {
	for _, c := range []struct {
		g    api.Group
		base api.Nat
	}{
		{group(23, 11), ""}, {group(23, 11), nat(5)}, {group(23, 11), nat(23)}, {group(23, 11), nat(27)}, {group(23, 0), nat(1)}, {api.Group{}, nat(1)}, {api.Group{}, ""},
		{api.Group{Modulus: "\x00\x17", Order: nat(11)}, nat(4)}, {api.Group{Modulus: nat(23), Order: "\x00\x0b"}, nat(4)}, {group(23, 11), "\x00\x04"},
	} {
		for x := range Elements(c.g, c.base) {
			t.Errorf("base %x in the group %x: got %x", c.base, c.g, x)
		}
	}
}

// P9.3: at most 65536 elements are yielded.
func TestElementsOfLargeGroups(t *testing.T) {
	for _, powers := range []int64{65521, 65535, 65536, 65537, 100003} {
		g, base := long(powers)
		wanted := cycle(g, base)[:min(powers, 65536)]
		if got := slices.Collect(Elements(g, base)); !slices.Equal(got, wanted) {
			t.Errorf("an element with %d powers: got %d", powers, len(got))
		}
	}
	x := nat(1)
	count := 0
	g := second()
	for y := range Elements(g, nat(4)) {
		if count == 500 {
			break
		}
		if y != x {
			t.Fatalf("power %d of 4: got %x, want %x", count, y, x)
		}
		x = fromBig(product(g, x, nat(4)))
		count++
	}
}

// P9.3: a sequence can be visited several times, also at once, and left at any time.
func TestElementsAreVisitedAgain(t *testing.T) {
	g := group(23, 11)
	all := cycle(g, nat(4))
	seq := Elements(g, nat(4))
	for most := 1; most <= len(all); most++ {
		var got []api.Nat
		for x := range seq {
			if got = append(got, x); len(got) == most {
				break
			}
		}
		if !slices.Equal(got, all[:most]) {
			t.Errorf("left after %d: got %x", most, got)
		}
	}
	var outer []api.Nat
	for x := range seq {
		outer = append(outer, x)
		if inner := slices.Collect(seq); !slices.Equal(inner, all) {
			t.Errorf("a visit within a visit: got %x", inner)
		}
	}
	if !slices.Equal(outer, all) {
		t.Errorf("the outer visit: got %x", outer)
	}
}

// logarithm checks a result of Log; a negative one says that there is none.
func logarithm(t *testing.T, g api.Group, base, x api.Nat, most, wanted int) {
	t.Helper()
	k, ok := Log(g, base, x, most)
	if ok != (wanted >= 0) || k != max(wanted, 0) {
		t.Fatalf("Log of %x to the base %x, at most %d, in the group %x: got %d and %v, want %d", x, base, most, g, k, ok, wanted)
	}
}

// P9.3: all numbers, also in groups that are not valid.
func TestLogSmall(t *testing.T) {
	for p := range uint64(18) {
		for q := range uint64(18) {
			g := group(p, q)
			for base := range p + 2 {
				for x := range p + 2 {
					first := -1
					if Has(g, nat(base)) && Has(g, nat(x)) {
						first = slices.Index(cycle(g, nat(base)), nat(x))
					}
					for most := -2; most < int(p)+2; most++ {
						wanted := first
						if first > most {
							wanted = -1
						}
						logarithm(t, g, nat(base), nat(x), most, wanted)
					}
				}
			}
		}
	}
}

// P9.3.
func TestLogExamplesAndBounds(t *testing.T) {
	g := group(23, 11)
	logarithm(t, g, nat(4), nat(2), 10, 6)
	logarithm(t, g, nat(4), nat(2), 6, 6)
	logarithm(t, g, nat(4), nat(2), 5, -1)
	logarithm(t, g, nat(4), nat(1), 0, 0)
	logarithm(t, g, nat(1), nat(2), math.MaxInt, -1)
	logarithm(t, g, nat(4), nat(5), math.MaxInt, -1)
	logarithm(t, g, nat(5), nat(2), math.MaxInt, -1) // 5^2 is 2, but 5 is no element
	logarithm(t, g, nat(5), nat(1), math.MaxInt, -1)
	for _, most := range []int{-1, -65536, math.MinInt, math.MinInt + 1} {
		logarithm(t, g, nat(4), nat(1), most, -1)
	}
	for _, most := range []int{10, 11, 65536, 65537, math.MaxInt - 1, math.MaxInt} {
		logarithm(t, g, nat(4), nat(6), most, 10)
	}
	for _, bad := range []api.Nat{"\x00", "\x00\x04", ones(129)} {
		logarithm(t, g, bad, nat(1), 10, -1)
		logarithm(t, g, nat(4), bad, 10, -1)
		logarithm(t, api.Group{Modulus: bad, Order: nat(11)}, nat(1), nat(1), 10, -1)
		logarithm(t, api.Group{Modulus: nat(23), Order: bad}, nat(1), nat(1), 10, -1)
	}
	logarithm(t, group(23, 0), nat(1), nat(1), 10, -1)
	logarithm(t, api.Group{}, "", "", 10, -1)
}

// P9.3: a greater most than 65536 counts as 65536.
func TestLogLimit(t *testing.T) {
	for _, g := range []api.Group{group(18446744073709551557, 5594472617641), above(big.NewInt(100003)), above(big.NewInt(65537))} {
		base, err := Hash(g, "base")
		if err != api.OK {
			t.Fatalf("error %d", err)
		}
		power := func(e int64) api.Nat {
			x, _ := Power(g, base, integer.Of(e))
			return x
		}
		for _, e := range []int{0, 1, 65535, 65536} {
			logarithm(t, g, base, power(int64(e)), math.MaxInt, e)
			logarithm(t, g, base, power(int64(e)), 65537, e)
			logarithm(t, g, base, power(int64(e)), e, e)
			logarithm(t, g, base, power(int64(e)), e-1, -1)
		}
	}
	g := above(big.NewInt(100003))
	base, _ := Hash(g, "base")
	for _, e := range []int64{65537, 100002} {
		x, _ := Power(g, base, integer.Of(e))
		for _, most := range []int{65536, 65537, 100003, math.MaxInt} {
			logarithm(t, g, base, x, most, -1)
		}
	}
}
