package primegroup

import (
	"math/big"
	"math/rand"
	"testing"

	"domino/api"
	"domino/integer"
)

// product returns the product of two elements by the definition.
func product(g api.Group, a, b api.Nat) *big.Int {
	x := new(big.Int).Mul(toBig(a), toBig(b))
	return x.Mod(x, toBig(g.Modulus))
}

// raised returns a power by the definition, with the inverse for a negative exponent.
func raised(g api.Group, a api.Nat, e api.Int) *big.Int {
	p, x := toBig(g.Modulus), toBig(a)
	if e.Neg {
		x.ModInverse(x, p)
	}
	return x.Exp(x, toBig(e.Abs), p)
}

// P9.2: all pairs of numbers, also in groups that are not valid.
func TestMulAndPowerSmall(t *testing.T) {
	for p := range uint64(16) {
		for q := range uint64(17) {
			g := group(p, q)
			for a := range p + 2 {
				for b := range p + 2 {
					x, err := Mul(g, nat(a), nat(b))
					if Has(g, nat(a)) && Has(g, nat(b)) {
						expect(t, "Mul", g, x, err, product(g, nat(a), nat(b)))
					} else {
						refused(t, "Mul", g, x, err, api.ErrGroup)
					}
				}
				for e := int64(-20); e <= 20; e++ {
					x, err := Power(g, nat(a), integer.Of(e))
					if Has(g, nat(a)) {
						expect(t, "Power", g, x, err, raised(g, nat(a), integer.Of(e)))
					} else {
						refused(t, "Power", g, x, err, api.ErrGroup)
					}
				}
			}
		}
	}
}

// P9.2.
func TestMulAndPowerLong(t *testing.T) {
	r := rand.New(rand.NewSource(2))
	for _, g := range groups() {
		exponents := []api.Nat{"", nat(1), nat(2), g.Order, fromBig(new(big.Int).Sub(toBig(g.Order), big.NewInt(1))), g.Modulus, ones(128)}
		for range 5 {
			exponents = append(exponents, randomNumber(r, 1024))
		}
		for _, e := range exponents {
			a, b := random(r, g), random(r, g)
			x, err := Mul(g, a, b)
			expect(t, "Mul", g, x, err, product(g, a, b))
			for _, i := range []api.Int{integer.From(e), integer.Neg(integer.From(e))} {
				x, err = Power(g, a, i)
				expect(t, "Power", g, x, err, raised(g, a, i))
			}
		}
	}
}

// P9.2.
func TestMulAndPowerExamples(t *testing.T) {
	g := group(23, 11)
	x, err := Mul(g, nat(6), nat(12))
	expect(t, "6 * 12", g, x, err, big.NewInt(3))
	x, err = Power(g, nat(4), integer.Of(-1))
	expect(t, "4^-1", g, x, err, big.NewInt(6))
	for e, wanted := range []int64{1, 4, 16, 18, 3, 12, 2, 8, 9, 13, 6, 1} {
		x, err = Power(g, nat(4), integer.Of(int64(e)))
		expect(t, "a power of 4", g, x, err, big.NewInt(wanted))
	}
}

// P9.2: ErrForm comes before ErrGroup.
func TestMulAndPowerErrors(t *testing.T) {
	g := group(23, 11)
	for _, bad := range invalid() {
		for _, other := range []api.Nat{"", nat(1), nat(4), nat(5), ones(128), bad} {
			x, err := Mul(g, bad, other)
			refused(t, "first factor", g, x, err, api.ErrForm)
			x, err = Mul(g, other, bad)
			refused(t, "second factor", g, x, err, api.ErrForm)
			x, err = Power(g, bad, integer.From(nat(3)))
			refused(t, "base", g, x, err, api.ErrForm)
			for _, e := range []api.Int{{Abs: bad}, {Neg: true, Abs: bad}} {
				x, err = Power(g, other, e)
				refused(t, "exponent", g, x, err, api.ErrForm)
			}
			for _, h := range []api.Group{{Modulus: bad, Order: other}, {Modulus: other, Order: bad}} {
				x, err = Mul(h, nat(1), nat(1))
				refused(t, "product", h, x, err, api.ErrForm)
				x, err = Power(h, nat(1), integer.Of(2))
				refused(t, "power", h, x, err, api.ErrForm)
			}
		}
	}
	for _, a := range []api.Nat{"", nat(4), nat(5)} {
		x, err := Power(g, a, api.Int{Neg: true})
		refused(t, "exponent -0", g, x, err, api.ErrForm)
	}
	for _, no := range []api.Nat{"", nat(5), nat(23), nat(27), ones(128)} {
		x, err := Mul(g, no, nat(4))
		refused(t, "first factor", g, x, err, api.ErrGroup)
		x, err = Mul(g, nat(4), no)
		refused(t, "second factor", g, x, err, api.ErrGroup)
		for _, e := range []int64{-1, 0, 1} {
			x, err = Power(g, no, integer.Of(e))
			refused(t, "base", g, x, err, api.ErrGroup)
		}
	}
	for _, none := range []api.Group{{}, group(23, 0), group(0, 11), group(1, 11)} {
		x, err := Mul(none, nat(1), nat(1))
		refused(t, "product", none, x, err, api.ErrGroup)
		x, err = Power(none, nat(1), integer.Of(0))
		refused(t, "power", none, x, err, api.ErrGroup)
	}
}

// P9.4.
func TestProductsAndPowersAreElements(t *testing.T) {
	for p := range uint64(40) {
		for q := range uint64(40) {
			g := group(p, q)
			list := members(g)
			for _, a := range list {
				for _, b := range list {
					if x, _ := Mul(g, a, b); !Has(g, x) {
						t.Fatalf("%x * %x is no element of %x", a, b, g)
					}
				}
				for _, e := range []int64{-7, -1, 0, 1, 2, 100} {
					if x, _ := Power(g, a, integer.Of(e)); !Has(g, x) {
						t.Fatalf("%x^%d is no element of %x", a, e, g)
					}
				}
			}
		}
	}
}

// P9.4.
func TestLaws(t *testing.T) {
	r := rand.New(rand.NewSource(3))
	for _, g := range groups() {
		mul := func(a, b api.Nat) api.Nat {
			t.Helper()
			x, err := Mul(g, a, b)
			if err != api.OK || !Has(g, x) {
				t.Fatalf("%x * %x in the group %x: %x and error %d", a, b, g, x, err)
			}
			return x
		}
		power := func(a api.Nat, e api.Int) api.Nat {
			t.Helper()
			x, err := Power(g, a, e)
			if err != api.OK || !Has(g, x) {
				t.Fatalf("%x^%v in the group %x: %x and error %d", a, e, g, x, err)
			}
			return x
		}
		for range 10 {
			a, b, c := random(r, g), random(r, g), random(r, g)
			if mul(a, b) != mul(b, a) || mul(mul(a, b), c) != mul(a, mul(b, c)) {
				t.Fatalf("Mul of %x, %x and %x in the group %x", a, b, c, g)
			}
			d, e := integer.From(randomNumber(r, 1000)), integer.Neg(integer.From(randomNumber(r, 1000)))
			for _, pair := range [][2]api.Int{{d, e}, {d, d}, {e, e}, {e, integer.Neg(e)}} {
				sum, _ := integer.Add(pair[0], pair[1])
				if power(a, sum) != mul(power(a, pair[0]), power(a, pair[1])) {
					t.Fatalf("the powers of %x with %v in the group %x", a, pair, g)
				}
			}
		}
	}
}

// P9.4: a generator of a valid group has as many different powers as Order says.
func TestGeneratorsHaveAllPowers(t *testing.T) {
	found := 0
	for p := range uint64(60) {
		for q := range uint64(60) {
			g := group(p, q)
			if Check(g) != api.OK {
				continue
			}
			found++
			for _, a := range members(g) {
				powers := map[api.Nat]bool{}
				for e := range int64(2 * q) {
					x, _ := Power(g, a, integer.Of(e-int64(q)))
					powers[x] = true
				}
				if wanted := int(q); IsGenerator(g, a) && len(powers) != wanted || !IsGenerator(g, a) && len(powers) != 1 {
					t.Errorf("%x has %d powers in the group %x", a, len(powers), g)
				}
			}
		}
	}
	if found < 30 {
		t.Errorf("only %d valid groups", found)
	}
}
