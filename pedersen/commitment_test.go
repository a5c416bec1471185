package pedersen

import (
	"math/big"
	"math/rand"
	"testing"

	"domino/api"
	"domino/integer"
)

// small returns well-formed keys whose elements can be visited completely.
func small() []api.Pedersen {
	return []api.Pedersen{key(7, 3, 2, 4), key(23, 11, 4, 3), key(23, 22, 5, 22), key(15, 2, 4, 11), key(9, 0, 2, 8), key(15, 0, 2, 4), key(11, 0, 3, 10)}
}

// P14.2: all small openings.
func TestCommitSmall(t *testing.T) {
	for _, k := range append(small(), key(77, 0, 4, 9)) {
		for m := int64(-14); m <= 14; m++ {
			for r := int64(-14); r <= 14; r++ {
				o := open(m, r)
				c, err := Commit(k, o)
				expect(t, "Commit", k, c, err, commitment(k, o))
				for _, x := range append(members(k.Group), "", k.Group.Modulus, "\x00"+c) {
					if Opens(k, x, o) != (x == c) {
						t.Fatalf("Opens of %x and %v with the key %x: got %v", x, o, k, x != c)
					}
				}
			}
		}
	}
}

// P14.2.
func TestCommitLong(t *testing.T) {
	r := rand.New(rand.NewSource(1))
	for _, k := range keys() {
		most := fromSigned(toBig(ones(128)))
		list := []api.Opening{{}, {Value: most, Random: most}, {Value: integer.Neg(most), Random: integer.Neg(most)}, {Value: most}, {Random: integer.Neg(most)}}
		for range 10 {
			list = append(list, randomOpening(r, 1024))
		}
		for _, o := range list {
			c, err := Commit(k, o)
			expect(t, "Commit", k, c, err, commitment(k, o))
			if !Opens(k, c, o) {
				t.Errorf("%v does not open %x with the key %x", o, c, k)
			}
			for _, by := range []api.Int{integer.Of(1), integer.Of(-1)} {
				value, random := o, o
				value.Value, _ = integer.Add(o.Value, by)
				random.Random, _ = integer.Add(o.Random, by)
				if value.Value != (api.Int{}) && Opens(k, c, value) || random.Random != (api.Int{}) && Opens(k, c, random) {
					t.Errorf("another opening than %v opens %x with the key %x", o, c, k)
				}
			}
		}
	}
}

// P14.2: the examples of the document.
func TestCommitmentExamples(t *testing.T) {
	k := key(23, 11, 4, 3)
	c, err := Commit(k, open(2, 1))
	expect(t, "Commit", k, c, err, nat(2))
	c, err = Commit(k, open(6, 0))
	expect(t, "Commit", k, c, err, nat(2))
	c, err = Shift(k, nat(2), integer.Of(1))
	expect(t, "Shift", k, c, err, nat(8))
	if !Opens(k, nat(2), open(2, 1)) || !Opens(k, nat(2), open(6, 0)) || Opens(k, nat(2), open(2, 2)) {
		t.Errorf("not the openings of 2")
	}
}

// P14.2: commitments with 128 bytes that were calculated with another program.
func TestKnownCommitments(t *testing.T) {
	negative := long(5, 400, 0)
	o := api.Opening{Value: fromSigned(long(3, 600, 0)), Random: fromSigned(negative.Neg(negative))}
	k := labelled()
	c, err := Commit(k, o)
	expect(t, "Commit", k, c, err, hexadecimal("5986f765b2f14875e9c43d7a6393cefd43606208d06cbccc9cd4a9b671db51bf3ab1d3e128a4b1c4aa877fd4acc43362475cd2730986038fd6dc65517908db4c"+
		"f1d234548591241ccdb18e4b489821c4beff436409122fca60ed14196db42139b6a7852ba2ead16fe39408ddd6291984b98f28c2486ef7a9256132710e750e5c"))
	k = api.Pedersen{Group: api.Group{Modulus: ones(128)}, G: nat(7), H: nat(11)}
	c, err = Commit(k, o)
	expect(t, "Commit", k, c, err, hexadecimal("c292e79d180d2970648d2ad29e9fa66aaf5eef27a32074afecfacab8d5330b42ba84e8f3e9d7eb6decaeeea39ada5fd35fd690a1ebf71e757c5bfba3be30faf0"+
		"b12b5048097a80a1b1aaed10081a0e18bfc6bd0900e8b6f2da45f13037a484ff0d4f9a40e82a794f7257fe232c0e17a957c64adbcfa50d4cfaf030c8c095b807"))
}

// P14.2: all commitments with small keys.
func TestAddScaleAndShiftSmall(t *testing.T) {
	for _, k := range small() {
		n := toBig(k.Group.Modulus)
		for a := range n.Uint64() + 2 {
			c := nat(a)
			for b := range n.Uint64() + 2 {
				x, err := Add(k, c, nat(b))
				if member(k.Group, c) && member(k.Group, nat(b)) {
					expect(t, "Add", k, x, err, nat(a*b%n.Uint64()))
				} else {
					refused(t, "Add", k, x, err, api.ErrGroup)
				}
			}
			for by := int64(-25); by <= 25; by++ {
				x, err := Scale(k, c, integer.Of(by))
				y, shiftErr := Shift(k, c, integer.Of(by))
				if member(k.Group, c) {
					expect(t, "Scale", k, x, err, fromBig(raised(k.Group, c, integer.Of(by))))
					product := new(big.Int).Mul(toBig(c), raised(k.Group, k.G, integer.Of(by)))
					expect(t, "Shift", k, y, shiftErr, fromBig(product.Mod(product, n)))
				} else {
					refused(t, "Scale", k, x, err, api.ErrGroup)
					refused(t, "Shift", k, y, shiftErr, api.ErrGroup)
				}
			}
		}
	}
}

// P14.2.
func TestAddScaleAndShiftLong(t *testing.T) {
	r := rand.New(rand.NewSource(2))
	for _, k := range keys() {
		n := toBig(k.Group.Modulus)
		for range 10 {
			c, d, by := committed(k, randomOpening(r, 1024)), committed(k, randomOpening(r, 1024)), randomInt(r, 1024)
			x, err := Add(k, fromBig(c), fromBig(d))
			product := new(big.Int).Mul(c, d)
			expect(t, "Add", k, x, err, fromBig(product.Mod(product, n)))
			x, err = Scale(k, fromBig(c), by)
			expect(t, "Scale", k, x, err, fromBig(raised(k.Group, fromBig(c), by)))
			x, err = Shift(k, fromBig(c), by)
			product.Mul(c, raised(k.Group, k.G, by))
			expect(t, "Shift", k, x, err, fromBig(product.Mod(product, n)))
		}
	}
}

// P14.2: what opens a commitment to the sum, the multiple or the shifted value.
func TestCommitmentsToSums(t *testing.T) {
	r := rand.New(rand.NewSource(3))
	for _, k := range keys() {
		for range 5 {
			a, b, by := randomOpening(r, 500), randomOpening(r, 500), randomInt(r, 500)
			c, _ := Commit(k, a)
			d, _ := Commit(k, b)
			sum, multiple, shifted := a, a, a
			sum.Value, _ = integer.Add(a.Value, b.Value)
			sum.Random, _ = integer.Add(a.Random, b.Random)
			multiple.Value, _ = integer.Mul(a.Value, by)
			multiple.Random, _ = integer.Mul(a.Random, by)
			shifted.Value, _ = integer.Add(a.Value, by)
			x, _ := Add(k, c, d)
			y, _ := Scale(k, c, by)
			z, _ := Shift(k, c, by)
			if !Opens(k, x, sum) || !Opens(k, y, multiple) || !Opens(k, z, shifted) {
				t.Errorf("%v, %v and %v do not open the results with the key %x", sum, multiple, shifted, k)
			}
		}
	}
}

// errorsOf calls all functions that return commitments with equal arguments, and checks the error.
func errorsOf(t *testing.T, what string, k api.Pedersen, c api.Nat, i api.Int, wanted api.Errno) {
	t.Helper()
	x, err := Add(k, c, nat(1))
	if integer.Valid(i) {
		refused(t, what+" of Add", k, x, err, wanted)
		x, err = Add(k, nat(1), c)
		refused(t, what+" of Add", k, x, err, wanted)
	}
	x, err = Scale(k, c, i)
	refused(t, what+" of Scale", k, x, err, wanted)
	x, err = Shift(k, c, i)
	refused(t, what+" of Shift", k, x, err, wanted)
}

// P14.2: ErrForm for all numbers comes first, then the group and the key, then the commitments.
func TestCommitmentErrors(t *testing.T) {
	valid := append(keys(), misformed()...)
	for _, k := range append(valid, invalidKeys()...) {
		for _, bad := range invalid() {
			errorsOf(t, "the commitment", k, bad, integer.Of(2), api.ErrForm)
		}
		for _, bad := range invalidInts() {
			for _, c := range []api.Nat{"", nat(1)} {
				errorsOf(t, "the integer", k, c, bad, api.ErrForm)
			}
		}
		for _, bad := range invalidOpenings() {
			c, err := Commit(k, bad)
			refused(t, "the opening", k, c, err, api.ErrForm)
			for _, c := range []api.Nat{"", nat(1)} {
				if Opens(k, c, bad) {
					t.Errorf("%v opens %x with the key %.40x", bad, c, k)
				}
			}
		}
	}
	for _, k := range invalidKeys() {
		for _, c := range []api.Nat{"", nat(1)} {
			errorsOf(t, "the key", k, c, integer.Of(2), api.ErrForm)
		}
		c, err := Commit(k, open(0, 0))
		refused(t, "the key", k, c, err, api.ErrForm)
	}
	for _, k := range misformed() {
		for _, c := range []api.Nat{"", nat(1)} {
			errorsOf(t, "the key", k, c, integer.Of(0), api.ErrGroup)
			if Opens(k, c, open(0, 0)) {
				t.Errorf("an opening opens %x with the key %.40x", c, k)
			}
		}
		c, err := Commit(k, open(0, 0))
		refused(t, "the key", k, c, err, api.ErrGroup)
	}
	for _, k := range keys() {
		for _, no := range []api.Nat{"", k.Group.Modulus} {
			for by := int64(-1); by <= 1; by++ {
				errorsOf(t, "no element", k, no, integer.Of(by), api.ErrGroup)
			}
		}
	}
}
