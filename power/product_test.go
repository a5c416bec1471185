package power

import (
	"math/big"
	"math/rand"
	"slices"
	"testing"

	"domino/api"
	"domino/integer"
)

// referenceProduct returns a product by the definition.
func referenceProduct(g api.Group, bases []api.Nat, exps []api.Int) *big.Int {
	var powers []*big.Int
	for i, x := range bases {
		powers = append(powers, raised(g, x, exps[i]))
	}
	return multiplied(g, powers...)
}

// randomProduct returns random elements and as many exponents of many different lengths.
func randomProduct(r *rand.Rand, g api.Group, count int) ([]api.Nat, []api.Int) {
	var bases []api.Nat
	var exps []api.Int
	for range count {
		bases = append(bases, random(r, g))
		exps = append(exps, randomInt(r, 8<<r.Intn(8)))
	}
	return bases, exps
}

// P13.2: all products of two small powers.
func TestProductSmall(t *testing.T) {
	for _, g := range []api.Group{group(7, 3), group(23, 11), group(23, 22), group(9, 2), group(16, 15), group(9, 0), group(15, 0), group(11, 0)} {
		for _, a := range members(g) {
			for _, b := range members(g) {
				for d := int64(-6); d <= 6; d++ {
					for e := int64(-6); e <= 6; e++ {
						bases, exps := []api.Nat{a, b}, ints(d, e)
						x, err := Product(g, bases, exps)
						expect(t, "Product", g, x, err, referenceProduct(g, bases, exps))
					}
				}
			}
		}
	}
}

// P13.2.
func TestProductOfManyPowers(t *testing.T) {
	r := rand.New(rand.NewSource(3))
	for _, g := range groups() {
		for _, count := range []int{0, 1, 2, 3, 5, 8, 70} {
			bases, exps := randomProduct(r, g, count)
			x, err := Product(g, bases, exps)
			expect(t, "Product", g, x, err, referenceProduct(g, bases, exps))
		}
	}
	g := group(23, 11)
	bases, exps := randomProduct(r, g, 3000)
	x, err := Product(g, bases, exps)
	expect(t, "Product", g, x, err, referenceProduct(g, bases, exps))
}

// P13.2: exponents that are 0, 1, or as long as they can be.
func TestProductOfSpecialExponents(t *testing.T) {
	for _, g := range groups() {
		last := fromBig(new(big.Int).Sub(toBig(g.Modulus), big.NewInt(1)))
		for _, e := range []api.Int{{}, integer.Of(1), integer.Of(-1), integer.From(g.Order), integer.Neg(integer.From(g.Order)), integer.From(ones(128)), integer.Neg(integer.From(ones(128)))} {
			bases := []api.Nat{nat(1), random(rand.New(rand.NewSource(4)), g), nat(1)}
			if Has(g, last) {
				bases[0] = last
			}
			for _, exps := range [][]api.Int{{e, e, e}, {e, {}, {}}, {{}, e, {}}, {{}, {}, e}, {integer.Of(2), e, integer.Of(-3)}} {
				x, err := Product(g, bases, exps)
				expect(t, "Product", g, x, err, referenceProduct(g, bases, exps))
			}
		}
	}
}

// P13.2: the examples of the document.
func TestProductExamples(t *testing.T) {
	g, h := group(23, 11), group(77, 0)
	x, err := Product(g, nats(4, 3), ints(2, -1))
	expect(t, "4^2 * 3^-1", g, x, err, big.NewInt(13))
	x, err = Product(h, nats(5, 2), ints(2, 3))
	expect(t, "5^2 * 2^3", h, x, err, big.NewInt(46))
	for _, g := range groups() {
		x, err = Product(g, nil, nil)
		expect(t, "no bases", g, x, err, big.NewInt(1))
		x, err = Product(g, []api.Nat{}, []api.Int{})
		expect(t, "no bases", g, x, err, big.NewInt(1))
	}
}

// P13.2: products in groups with 128 bytes, calculated with another program.
func TestKnownProducts(t *testing.T) {
	long := func(base, exponent, more int64) api.Nat {
		n := new(big.Int).Exp(big.NewInt(base), big.NewInt(exponent), nil)
		return fromBig(n.Add(n, big.NewInt(more)))
	}
	g := api.Group{Modulus: ones(128)}
	x, err := Product(g, []api.Nat{nat(1234567891), nat(1000003), long(10, 200, 357)}, []api.Int{integer.Neg(integer.From(long(2, 1000, 0))), integer.From(long(2, 1020, 1)), integer.Of(-987654321)})
	expect(t, "units", g, x, err, toBig(hexadecimal("9064bfaf0bb65cb5632af003e520e88d2e39b1a3e14eb84ef703580e220e194d0cdc3d3d050137bfae0dca1fcb810c500d56d095bcca7e84f5cd96909b8ec4b2"+
		"a654d8e6882a2795dc29b6e80a8b6b3da412134189a497c84a88dae6edbbc944a6e04f58bd4e1cd76219264c691981c7b65b8db4d2356c59fb3ee1b75cecd9d3")))
	h := second()
	last := new(big.Int).Sub(toBig(h.Order), big.NewInt(1))
	x, err = Product(h, nats(4, 9, 25), []api.Int{integer.From(threePower()), integer.Neg(integer.From(long(5, 400, 0))), fromSigned(last)})
	expect(t, "elements", h, x, err, toBig(hexadecimal("80c374ad7da6c5057052b9045fe5fc4ab4d52eaad26a0e1e9223244bf2a6a32890689f4e1dd10fd9c21c12473d0b6b0e4d65e265afe0a8b251b507671bec0484"+
		"e03d44fa75234b376f4f15d9e82c095b487ff476c359134d57a8902de05e6d83e7e48229d0301add0cf3841dba3439646dac225d1da9f780ad5d281eee77b1a8")))
}

// P13.2: ErrForm for all numbers comes first, then the group, then ErrMany, then the elements.
func TestProductErrors(t *testing.T) {
	valid := append(groups(), misformed()...)
	for _, g := range append(valid, invalidGroups()...) {
		for _, bad := range invalid() {
			for _, bases := range [][]api.Nat{{bad}, {bad, ""}, {"", bad}, {nat(1), nat(1), bad}} {
				for _, exps := range [][]api.Int{nil, ints(1), ints(0, 0), ints(1, -2, 3), {{Neg: true}}} {
					x, err := Product(g, bases, exps)
					refused(t, "bases", g, x, err, api.ErrForm)
				}
			}
		}
		for _, bad := range invalidInts() {
			for _, exps := range [][]api.Int{{bad}, {bad, {}}, {{}, bad}, {{}, {}, bad}} {
				for _, bases := range [][]api.Nat{nil, nats(1), nats(0, 5), nats(1, 1, 1), {"\x00"}} {
					x, err := Product(g, bases, exps)
					refused(t, "exponents", g, x, err, api.ErrForm)
				}
			}
		}
	}
	for _, g := range invalidGroups() {
		x, err := Product(g, nil, ints(1))
		refused(t, "the group", g, x, err, api.ErrForm)
	}
	for _, g := range misformed() {
		for count := range 3 {
			x, err := Product(g, nats(1, 0)[:count], ints(1))
			refused(t, "the group", g, x, err, api.ErrGroup)
		}
	}
	for _, g := range groups() {
		for _, bases := range [][]api.Nat{nats(1), nats(0), {g.Modulus}, nats(1, 0, 1)} {
			for _, exps := range [][]api.Int{nil, ints(1, 1), ints(0, 0, 0, 0)} {
				x, err := Product(g, bases, exps)
				refused(t, "the lengths", g, x, err, api.ErrMany)
			}
		}
		x, err := Product(g, nil, ints(0))
		refused(t, "the lengths", g, x, err, api.ErrMany)
		for _, no := range []api.Nat{"", g.Modulus} {
			for i := range 3 {
				bases := nats(1, 1, 1)
				bases[i] = no
				x, err = Product(g, bases, ints(0, 0, 0))
				refused(t, "an element", g, x, err, api.ErrGroup)
			}
		}
	}
}

// P13.2: the arguments stay as they are, also behind their ends.
func TestProductLeavesItsArguments(t *testing.T) {
	bases, exps := nats(4, 3, 2, 18, 9), ints(2, -1, 5, 30, -7)
	wantedBases, wantedExps := slices.Clone(bases), slices.Clone(exps)
	for _, g := range []api.Group{group(23, 11), group(25, 0), group(77, 0), {}} {
		for count := range bases {
			Product(g, bases[:count], exps[:count])
			Product(g, bases[:count], exps[:count+1])
		}
	}
	if !slices.Equal(bases, wantedBases) || !slices.Equal(exps, wantedExps) {
		t.Errorf("the arguments are %x and %v now", bases, exps)
	}
}

// P13.4.
func TestProductIsTheProductOfPowers(t *testing.T) {
	r := rand.New(rand.NewSource(5))
	for _, g := range groups() {
		for range 10 {
			bases, exps := randomProduct(r, g, 4)
			wanted := nat(1)
			for i, x := range bases {
				power, _ := Exp(g, x, exps[i])
				wanted, _ = Mul(g, wanted, power)
			}
			for range 3 {
				r.Shuffle(len(bases), func(i, j int) {
					bases[i], bases[j] = bases[j], bases[i]
					exps[i], exps[j] = exps[j], exps[i]
				})
				x, err := Product(g, bases, exps)
				expect(t, "Product", g, x, err, toBig(wanted))
			}
		}
	}
}

// P13.4: exponents of equal bases add, and the power with -e is the inverse of that with e.
func TestExponentsAdd(t *testing.T) {
	r := rand.New(rand.NewSource(6))
	for _, g := range groups() {
		for range 10 {
			x, d, e := random(r, g), randomInt(r, 1000), randomInt(r, 1000)
			sum, _ := integer.Add(d, e)
			wanted, _ := Exp(g, x, sum)
			got, err := Product(g, []api.Nat{x, x}, []api.Int{d, e})
			expect(t, "equal bases", g, got, err, toBig(wanted))
			power, _ := Exp(g, x, e)
			inverse, _ := Exp(g, x, integer.Neg(e))
			got, err = Mul(g, power, inverse)
			expect(t, "the inverse", g, got, err, big.NewInt(1))
		}
	}
}
