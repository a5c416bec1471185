package power

import (
	"math/big"
	"math/rand"
	"testing"

	"domino/api"
	"domino/integer"
)

// P13.1: all small numbers.
func TestCheckSmall(t *testing.T) {
	for p := range uint64(130) {
		for q := range uint64(130) {
			wanted := api.ErrGroup
			if wellFormed(group(p, q)) {
				wanted = api.OK
			}
			if err := Check(group(p, q)); err != wanted {
				t.Fatalf("Check of %d, %d: got error %d, want %d", p, q, err, wanted)
			}
		}
	}
}

// P13.1.
func TestCheckLong(t *testing.T) {
	for _, g := range groups() {
		if err := Check(g); err != api.OK {
			t.Errorf("Check of %x: got error %d", g, err)
		}
		if g.Order == "" {
			continue
		}
		for _, more := range []int64{-1, 1} {
			for _, h := range []api.Group{
				{Modulus: fromBig(new(big.Int).Add(toBig(g.Modulus), big.NewInt(more))), Order: g.Order},
				{Modulus: g.Modulus, Order: fromBig(new(big.Int).Add(toBig(g.Order), big.NewInt(more)))},
			} {
				wanted := api.ErrGroup
				if wellFormed(h) {
					wanted = api.OK
				}
				if err := Check(h); err != wanted {
					t.Errorf("Check of %x: got error %d, want %d", h, err, wanted)
				}
			}
		}
	}
	for _, g := range misformed() {
		if err := Check(g); err != api.ErrGroup {
			t.Errorf("Check of %x: got error %d", g, err)
		}
	}
}

// P13.1: ErrForm comes before ErrGroup.
func TestCheckOfNumbersThatAreNotCanonical(t *testing.T) {
	for _, g := range invalidGroups() {
		if err := Check(g); err != api.ErrForm {
			t.Errorf("Check of %.40x: got error %d", g, err)
		}
		for _, x := range []api.Nat{"", nat(1), nat(4), g.Modulus} {
			if Has(g, x) {
				t.Errorf("%x is an element of %.40x", x, g)
			}
		}
	}
	for _, bad := range invalid() {
		for _, g := range groups() {
			if Has(g, bad) {
				t.Errorf("%.40x is an element of %x", bad, g)
			}
		}
	}
}

// P13.1: all small numbers.
func TestHasSmall(t *testing.T) {
	for p := range uint64(60) {
		for q := range uint64(60) {
			g := group(p, q)
			for x := range p + 3 {
				if got := Has(g, nat(x)); got != (wellFormed(g) && member(g, toBig(nat(x)))) {
					t.Fatalf("Has of %d in the group %d, %d: got %v", x, p, q, got)
				}
			}
		}
	}
}

// P13.1.
func TestHasLong(t *testing.T) {
	r := rand.New(rand.NewSource(1))
	for _, g := range groups() {
		n, one := toBig(g.Modulus), big.NewInt(1)
		list := []*big.Int{new(big.Int), one, big.NewInt(2), new(big.Int).Sub(n, one), n, new(big.Int).Add(n, one), toBig(ones(128))}
		for range 20 {
			x := new(big.Int).Rand(r, n)
			list = append(list, x, new(big.Int).Mod(new(big.Int).Mul(x, x), n), toBig(random(r, g)), new(big.Int).GCD(nil, nil, x, n), new(big.Int).Add(toBig(random(r, g)), n))
		}
		for _, x := range list {
			if got := Has(g, fromBig(x)); x.BitLen() <= 1024 && got != member(g, x) {
				t.Errorf("Has of %x in the group %x: got %v", x, g, got)
			}
		}
	}
}

// P13.1: all pairs of numbers, also in groups that are not well-formed.
func TestMulAndExpSmall(t *testing.T) {
	for p := range uint64(18) {
		for q := range uint64(19) {
			g := group(p, q)
			for a := range p + 2 {
				for b := range p + 2 {
					x, err := Mul(g, nat(a), nat(b))
					if wellFormed(g) && member(g, toBig(nat(a))) && member(g, toBig(nat(b))) {
						expect(t, "Mul", g, x, err, multiplied(g, toBig(nat(a)), toBig(nat(b))))
					} else {
						refused(t, "Mul", g, x, err, api.ErrGroup)
					}
				}
				for e := int64(-40); e <= 40; e++ {
					x, err := Exp(g, nat(a), integer.Of(e))
					if wellFormed(g) && member(g, toBig(nat(a))) {
						expect(t, "Exp", g, x, err, raised(g, nat(a), integer.Of(e)))
					} else {
						refused(t, "Exp", g, x, err, api.ErrGroup)
					}
				}
			}
		}
	}
}

// P13.1.
func TestMulAndExpLong(t *testing.T) {
	r := rand.New(rand.NewSource(2))
	for _, g := range groups() {
		exponents := []api.Int{{}, integer.From(nat(1)), integer.From(nat(2)), integer.From(g.Order), integer.From(g.Modulus), integer.From(ones(128))}
		for range 10 {
			exponents = append(exponents, randomInt(r, 1024))
		}
		for _, e := range exponents {
			a, b := random(r, g), random(r, g)
			x, err := Mul(g, a, b)
			expect(t, "Mul", g, x, err, multiplied(g, toBig(a), toBig(b)))
			for _, i := range []api.Int{e, integer.Neg(e)} {
				x, err = Exp(g, a, i)
				expect(t, "Exp", g, x, err, raised(g, a, i))
			}
		}
	}
}

// P13.1: the examples of the document.
func TestMulAndExpExamples(t *testing.T) {
	g, h := group(23, 11), group(77, 0)
	x, err := Exp(g, nat(2), integer.Of(-3))
	expect(t, "2^-3", g, x, err, big.NewInt(3))
	x, err = Mul(g, nat(16), nat(8))
	expect(t, "16 * 8", g, x, err, big.NewInt(13))
	if !Has(h, nat(5)) || Has(h, nat(7)) {
		t.Errorf("the elements are not the units modulo 77")
	}
	if err := Check(group(8, 0)); err != api.ErrGroup {
		t.Errorf("Check of 8, 0: got error %d", err)
	}
}

// P13.1: powers in groups with 128 bytes, calculated with another program.
func TestExpOfKnownPowers(t *testing.T) {
	g := api.Group{Modulus: ones(128)}
	base := new(big.Int).Exp(big.NewInt(10), big.NewInt(200), nil)
	base.Add(base, big.NewInt(357))
	e := new(big.Int).Exp(big.NewInt(3), big.NewInt(600), nil)
	x, err := Exp(g, fromBig(base), fromSigned(e.Neg(e)))
	expect(t, "a power with the exponent -3^600", g, x, err, toBig(hexadecimal("3b6fb5c6ebed1fc3c7f3a2ecfef15b548f9e925c29251a0beb0c485a08df927495188576626fef461dc6c009f60d606be0491d3628d36b52a5161c56111c3dca"+
		"c107b01f917827c37ce34e5e3dd84db0b847e0e9ef7a63f04ad5f5e6d116409a5be0b5c43ae640ae393c235b3cc5294f68e9515e2c2f75880cd4b969bd115611")))
	x, err = Exp(second(), nat(4), integer.From(threePower()))
	expect(t, "4^(3^640)", second(), x, err, toBig(knownPower()))
}

// threePower returns 3^640, which has 1015 bits.
func threePower() api.Nat {
	return fromBig(new(big.Int).Exp(big.NewInt(3), big.NewInt(640), nil))
}

// knownPower returns 4^(3^640) in the second group, calculated with another program.
func knownPower() api.Nat {
	return hexadecimal("3acc136424cef1a41d9c3106b71376cbe807930abb59238950e2f391d852555ebc3750312aba1490068f3147ee965fa06a83fe62486f6f7cfe0fb413e68a0912" +
		"96d538ab21ab4d9521dac7e8dcca28776cb175273710e48486744b80f4097fc5d13d0ab7b9955d77fb6229e2382c23b1a98204d0939dfd4784784a51b585e07a")
}

// P13.1: ErrForm for all numbers comes first, then the group, then the elements.
func TestMulAndExpErrors(t *testing.T) {
	valid := append(groups(), misformed()...)
	for _, bad := range invalid() {
		for _, g := range append(valid, invalidGroups()...) {
			for _, other := range []api.Nat{"", nat(1), nat(4), bad} {
				x, err := Mul(g, bad, other)
				refused(t, "first factor", g, x, err, api.ErrForm)
				x, err = Mul(g, other, bad)
				refused(t, "second factor", g, x, err, api.ErrForm)
			}
			x, err := Exp(g, bad, integer.Of(2))
			refused(t, "base", g, x, err, api.ErrForm)
		}
	}
	for _, bad := range invalidInts() {
		for _, g := range append(valid, invalidGroups()...) {
			for _, base := range []api.Nat{"", nat(1), nat(5)} {
				x, err := Exp(g, base, bad)
				refused(t, "exponent", g, x, err, api.ErrForm)
			}
		}
	}
	for _, g := range invalidGroups() {
		x, err := Mul(g, nat(1), nat(4))
		refused(t, "Mul", g, x, err, api.ErrForm)
		x, err = Exp(g, nat(1), integer.Of(1))
		refused(t, "Exp", g, x, err, api.ErrForm)
	}
	for _, g := range misformed() {
		x, err := Mul(g, nat(1), nat(1))
		refused(t, "Mul", g, x, err, api.ErrGroup)
		x, err = Exp(g, nat(1), integer.Of(1))
		refused(t, "Exp", g, x, err, api.ErrGroup)
	}
	for _, g := range groups() {
		for _, no := range []api.Nat{"", g.Modulus} {
			x, err := Mul(g, no, nat(1))
			refused(t, "first factor", g, x, err, api.ErrGroup)
			x, err = Mul(g, nat(1), no)
			refused(t, "second factor", g, x, err, api.ErrGroup)
			for e := int64(-1); e <= 1; e++ {
				x, err = Exp(g, no, integer.Of(e))
				refused(t, "base", g, x, err, api.ErrGroup)
			}
		}
	}
}
