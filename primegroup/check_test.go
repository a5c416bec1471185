package primegroup

import (
	"math/big"
	"math/rand"
	"reflect"
	"slices"
	"testing"

	"domino/api"
)

// power2 returns 2^e plus a small number.
func power2(e uint, more int64) api.Nat {
	n := new(big.Int).Lsh(big.NewInt(1), e)
	return fromBig(n.Add(n, big.NewInt(more)))
}

// P9.1.
func TestCheckSmall(t *testing.T) {
	isPrime := func(n uint64) bool { return new(big.Int).SetUint64(n).ProbablyPrime(0) }
	for p := range uint64(110) {
		for q := range uint64(115) {
			wanted := api.OK
			switch {
			case !isPrime(p) || !isPrime(q):
				wanted = api.ErrPrime
			case (p-1)%q != 0:
				wanted = api.ErrGroup
			}
			if got := Check(group(p, q)); got != wanted {
				t.Fatalf("modulus %d, order %d: got error %d, want %d", p, q, got, wanted)
			}
		}
	}
}

// P9.1: also the order of the errors.
func TestCheckCases(t *testing.T) {
	const greatest = 18446744073709551557 // the greatest prime of 8 bytes
	for _, c := range []struct {
		what           string
		modulus, order api.Nat
		wanted         api.Errno
	}{
		{"the example", nat(23), nat(11), api.OK},
		{"order 7", nat(23), nat(7), api.ErrGroup},
		{"modulus 21", nat(21), nat(11), api.ErrPrime},
		{"modulus 21 and an order that divides 20", nat(21), nat(5), api.ErrPrime},
		{"a composite order that divides", nat(31), nat(15), api.ErrPrime},
		{"order 1", nat(23), nat(1), api.ErrPrime},
		{"the modulus as order", nat(23), nat(23), api.ErrGroup},
		{"modulus 2", nat(2), nat(2), api.ErrGroup},
		{"no numbers", "", "", api.ErrPrime},
		{"the greatest modulus", nat(greatest), nat(5594472617641), api.OK},
		{"the greatest modulus and another order", nat(greatest), nat(7), api.ErrGroup},
		{"the greatest modulus and itself", nat(greatest), nat(greatest), api.ErrGroup},
		{"the greatest number of 8 bytes", ones(8), nat(3), api.ErrPrime},

		{"a modulus of 9 bytes", power2(64, 0), nat(3), api.ErrLong},
		{"a prime modulus of 9 bytes", power2(64, 13), nat(2), api.ErrLong},
		{"a long modulus and a composite order", ones(128), nat(4), api.ErrLong},
		{"a long modulus and order 0", ones(128), "", api.ErrLong},
		{"two long numbers", second().Modulus, second().Order, api.ErrLong},

		{"a composite order of 9 bytes", nat(23), power2(64, 0), api.ErrGroup},
		{"a prime order of 9 bytes", nat(23), power2(64, 13), api.ErrGroup},
		{"a long order", nat(greatest), ones(128), api.ErrGroup},
		{"a long order that is prime", nat(2), second().Modulus, api.ErrGroup},
		{"a long order and a composite modulus", nat(21), power2(64, 13), api.ErrPrime},
		{"a long order and modulus 0", "", power2(64, 13), api.ErrPrime},
		{"a long order and modulus 1", nat(1), power2(64, 0), api.ErrPrime},
	} {
		if got := Check(api.Group{Modulus: c.modulus, Order: c.order}); got != c.wanted {
			t.Errorf("%s: got error %d, want %d", c.what, got, c.wanted)
		}
	}
	for _, bad := range invalid() {
		for _, other := range []api.Nat{"", nat(3), nat(4), ones(128), bad} {
			if got := Check(api.Group{Modulus: bad, Order: other}); got != api.ErrForm {
				t.Errorf("modulus %.20x: got error %d, want ErrForm", bad, got)
			}
			if got := Check(api.Group{Modulus: other, Order: bad}); got != api.ErrForm {
				t.Errorf("order %.20x: got error %d, want ErrForm", bad, got)
			}
		}
	}
}

// P9.1.
func TestCertified(t *testing.T) {
	checked := func(what string, g api.Group, p, q api.Certificate, wanted api.Errno) {
		t.Helper()
		if got := Certified(g, p, q); got != wanted {
			t.Errorf("%s: got error %d, want %d", what, got, wanted)
		}
	}
	for _, g := range []api.Group{group(3, 2), group(23, 11), group(917519, 65537), proth(), above(new(big.Int).SetInt64(1<<61 - 1)), above(toBig(power2(89, -1)))} {
		p, q := certified(t, g.Modulus), certified(t, g.Order)
		checked("a valid group", g, p, q, api.OK)
		checked("the certificates in the wrong order", g, q, p, api.ErrPrime)
		checked("the certificate of the modulus twice", g, p, p, api.ErrPrime)
		checked("the certificate of the order twice", g, q, q, api.ErrPrime)
		checked("the modulus as order", api.Group{Modulus: g.Modulus, Order: g.Modulus}, p, p, api.ErrGroup)
		checked("the numbers in the wrong order", api.Group{Modulus: g.Order, Order: g.Modulus}, q, p, api.ErrGroup)
	}
	p, q, seven := certified(t, nat(1000003)), certified(t, nat(166667)), certified(t, nat(7))
	checked("an order that does not divide", group(1000003, 7), p, seven, api.ErrGroup)
	checked("an order that divides", group(1000003, 166667), p, q, api.OK)
	checked("another modulus", group(333337, 166667), p, q, api.ErrPrime)
	checked("another order", group(1000003, 3), p, q, api.ErrPrime)
	checked("no numbers", api.Group{}, p, q, api.ErrPrime)
	checked("modulus 2", group(2, 2), certified(t, nat(2)), certified(t, nat(2)), api.ErrGroup)
}

// P9.1: the order of the errors of Certified.
func TestCertifiedErrors(t *testing.T) {
	g := group(1000003, 166667)
	p, q := certified(t, g.Modulus), certified(t, g.Order)
	malformed := api.Certificate{Steps: []api.Step{{Prime: "\x01"}}}
	composite := api.Certificate{Steps: []api.Step{{Prime: "\x04"}}}
	long := api.Certificate{Steps: slices.Repeat([]api.Step{{Prime: "\x02"}}, 257)}
	for _, bad := range []struct {
		c   api.Certificate
		err api.Errno
	}{{api.Certificate{}, api.ErrForm}, {malformed, api.ErrForm}, {long, api.ErrMany}, {composite, api.ErrPrime}} {
		for _, other := range []api.Group{g, group(1000003, 7), group(4, 4), {}} {
			if got := Certified(other, bad.c, q); got != bad.err {
				t.Errorf("the certificate of the modulus: got error %d, want %d", got, bad.err)
			}
			if got := Certified(other, p, bad.c); got != bad.err {
				t.Errorf("the certificate of the order: got error %d, want %d", got, bad.err)
			}
		}
		for _, second := range []api.Certificate{{}, malformed, long, composite} {
			if got := Certified(g, bad.c, second); got != bad.err {
				t.Errorf("two bad certificates: got error %d, want %d", got, bad.err)
			}
		}
		for _, number := range invalid() {
			for _, other := range []api.Group{{Modulus: number, Order: g.Order}, {Modulus: g.Modulus, Order: number}, {Modulus: number, Order: number}} {
				if got := Certified(other, bad.c, bad.c); got != api.ErrForm {
					t.Errorf("a group with %.20x: got error %d, want ErrForm", number, got)
				}
			}
		}
	}
	for _, number := range invalid() {
		last := api.Certificate{Steps: []api.Step{{Prime: number}}}
		if got := Certified(api.Group{Modulus: number, Order: g.Order}, last, q); got != api.ErrForm {
			t.Errorf("modulus %.20x: got error %d, want ErrForm", number, got)
		}
	}
}

// P9.1: the certificates are not changed.
func TestCertifiedKeepsItsArguments(t *testing.T) {
	p, q := certified(t, nat(1000003)), certified(t, nat(166667))
	again, other := certified(t, nat(1000003)), certified(t, nat(166667))
	Certified(group(1000003, 166667), p, q)
	if !reflect.DeepEqual(p, again) || !reflect.DeepEqual(q, other) {
		t.Error("a certificate has changed")
	}
}

// P9.1: all numbers, also in groups that are not valid.
func TestHasSmall(t *testing.T) {
	for p := range uint64(34) {
		for q := range uint64(36) {
			g := group(p, q)
			for x := range p + 4 {
				wanted := member(g, new(big.Int).SetUint64(x))
				if got := Has(g, nat(x)); got != wanted {
					t.Fatalf("Has of %d in %d, %d: got %v", x, p, q, got)
				}
				if got := IsGenerator(g, nat(x)); got != (wanted && x != 1) {
					t.Fatalf("IsGenerator of %d in %d, %d: got %v", x, p, q, got)
				}
			}
		}
	}
}

// P9.1.
func TestHasExamples(t *testing.T) {
	want := []api.Nat{nat(1), nat(2), nat(3), nat(4), nat(6), nat(8), nat(9), nat(12), nat(13), nat(16), nat(18)}
	g := group(23, 11)
	if got := members(g); !slices.Equal(got, want) {
		t.Fatalf("the test has the elements %x", got)
	}
	for x := range uint64(50) {
		if got, wanted := Has(g, nat(x)), slices.Contains(want, nat(x)); got != wanted {
			t.Errorf("Has of %d: got %v", x, got)
		}
	}
	if !IsGenerator(g, nat(4)) || IsGenerator(g, nat(5)) || IsGenerator(g, nat(1)) {
		t.Error("the generators of the example are wrong")
	}
}

// P9.1.
func TestHasLong(t *testing.T) {
	r := rand.New(rand.NewSource(1))
	for _, g := range groups() {
		p := toBig(g.Modulus)
		for _, x := range []api.Nat{"", nat(1), nat(2), fromBig(new(big.Int).Sub(p, big.NewInt(1))), g.Modulus, fromBig(new(big.Int).Add(p, big.NewInt(1))), ones(128)} {
			wanted := member(g, toBig(x))
			if Has(g, x) != wanted || IsGenerator(g, x) != (wanted && x != nat(1)) {
				t.Errorf("%x in the group %x: want %v", x, g, wanted)
			}
		}
		for range 10 {
			x := random(r, g)
			if !Has(g, x) || IsGenerator(g, x) != (x != nat(1)) {
				t.Errorf("%x in the group %x: no element", x, g)
			}
			y := fromBig(new(big.Int).Rand(r, p))
			if Has(g, y) != member(g, toBig(y)) {
				t.Errorf("%x in the group %x: want %v", y, g, member(g, toBig(y)))
			}
		}
	}
}

// P9.1.
func TestHasOfNumbersThatAreNotCanonical(t *testing.T) {
	for _, bad := range invalid() {
		for _, c := range []struct {
			g api.Group
			x api.Nat
		}{
			{group(23, 11), bad}, {api.Group{Modulus: bad, Order: nat(11)}, nat(4)}, {api.Group{Modulus: nat(23), Order: bad}, nat(4)},
			{api.Group{Modulus: bad, Order: nat(11)}, nat(1)}, {api.Group{Modulus: nat(23), Order: bad}, nat(1)}, {api.Group{Modulus: bad, Order: bad}, bad},
			{api.Group{}, bad}, {second(), bad}, {api.Group{Modulus: ones(128), Order: bad}, nat(1)},
		} {
			if Has(c.g, c.x) || IsGenerator(c.g, c.x) {
				t.Errorf("%.20x is an element of %.20x", c.x, c.g)
			}
		}
	}
}
