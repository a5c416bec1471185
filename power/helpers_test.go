package power

import (
	"math/big"
	"math/rand"
	"strings"
	"testing"

	"domino/api"
	"domino/integer"
	"domino/natural"
)

// nat returns the string of a small number.
func nat(n uint64) api.Nat {
	return natural.Of(n)
}

// nats returns the strings of small numbers.
func nats(l ...uint64) []api.Nat {
	var out []api.Nat
	for _, n := range l {
		out = append(out, nat(n))
	}
	return out
}

// ints returns small integers.
func ints(l ...int64) []api.Int {
	var out []api.Int
	for _, n := range l {
		out = append(out, integer.Of(n))
	}
	return out
}

// toBig returns the number of a string.
func toBig(a api.Nat) *big.Int {
	return new(big.Int).SetBytes([]byte(a))
}

// toSigned returns the number of an integer.
func toSigned(a api.Int) *big.Int {
	if a.Neg {
		return new(big.Int).Neg(toBig(a.Abs))
	}
	return toBig(a.Abs)
}

// fromBig returns the canonical string of a number, of any length.
func fromBig(n *big.Int) api.Nat {
	return api.Nat(n.Bytes())
}

// fromSigned returns the integer of a number.
func fromSigned(n *big.Int) api.Int {
	return api.Int{Neg: n.Sign() < 0, Abs: fromBig(n)}
}

// hexadecimal returns the string of the number with these digits.
func hexadecimal(digits string) api.Nat {
	n, _ := new(big.Int).SetString(digits, 16)
	return fromBig(n)
}

// ones returns n bytes 255.
func ones(n int) api.Nat {
	return api.Nat(strings.Repeat("\xff", n))
}

// invalid returns strings that are not canonical.
func invalid() []api.Nat {
	return []api.Nat{"\x00", "\x00\x04", "\x00\x17", "\x00" + ones(128), "\x01" + ones(128), ones(129), ones(1000)}
}

// invalidInts returns integers that are not valid.
func invalidInts() []api.Int {
	out := []api.Int{{Neg: true}}
	for _, bad := range invalid() {
		out = append(out, api.Int{Abs: bad}, api.Int{Neg: true, Abs: bad})
	}
	return out
}

// group returns a group with small numbers.
func group(p, q uint64) api.Group {
	return api.Group{Modulus: nat(p), Order: nat(q)}
}

// invalidGroups returns groups with numbers that are not canonical.
func invalidGroups() []api.Group {
	var out []api.Group
	for _, bad := range invalid() {
		out = append(out, api.Group{Modulus: bad}, api.Group{Modulus: bad, Order: nat(11)}, api.Group{Modulus: nat(23), Order: bad}, api.Group{Order: bad}, api.Group{Modulus: bad, Order: bad}, api.Group{Modulus: nat(22), Order: bad})
	}
	return out
}

// misformed returns groups with canonical numbers that are not well-formed.
func misformed() []api.Group {
	return []api.Group{
		{}, group(1, 0), group(7, 0), group(8, 0), group(10, 0), group(78, 0), {Modulus: ones(127) + "\xfe"},
		group(0, 11), group(1, 11), group(23, 1), group(2, 1), group(23, 10), group(23, 23), group(11, 23), {Modulus: nat(23), Order: ones(128)}, {Modulus: ones(128), Order: ones(128)},
	}
}

// second returns the group of RFC 2409, section 6.2, whose modulus is a safe prime of 128 bytes.
func second() api.Group {
	p := hexadecimal("FFFFFFFFFFFFFFFFC90FDAA22168C234C4C6628B80DC1CD129024E088A67CC74020BBEA63B139B22514A08798E3404DDEF9519B3CD3A431B" +
		"302B0A6DF25F14374FE1356D6D51C245E485B576625E7EC6F44C42E9A637ED6B0BFF5CB6F406B7EDEE386BFB5A899FA5AE9F24117C4B1FE649286651ECE65381FFFFFFFFFFFFFFFF")
	return api.Group{Modulus: p, Order: fromBig(new(big.Int).Rsh(toBig(p), 1))}
}

// groups returns well-formed groups of several sizes; some of those with an Order have a composite Modulus or Order.
func groups() []api.Group {
	return []api.Group{
		group(3, 2), group(7, 3), group(23, 11), group(23, 22), group(9, 2), group(16, 15), group(561, 80), group(18446744073709551557, 5594472617641), second(),
		group(9, 0), group(11, 0), group(77, 0), group(1081, 0), group(18446744073709551615, 0), {Modulus: ones(127)}, {Modulus: ones(128)},
	}
}

// wellFormed decides by the definition whether a group is well-formed.
func wellFormed(g api.Group) bool {
	n, q, one := toBig(g.Modulus), toBig(g.Order), big.NewInt(1)
	if q.Sign() == 0 {
		return n.Bit(0) == 1 && n.Cmp(big.NewInt(8)) > 0
	}
	last := new(big.Int).Sub(n, one)
	return q.Cmp(one) > 0 && n.Cmp(one) > 0 && last.Mod(last, q).Sign() == 0
}

// member decides by the definition whether x is an element of a well-formed group.
func member(g api.Group, x *big.Int) bool {
	n, q, one := toBig(g.Modulus), toBig(g.Order), big.NewInt(1)
	if x.Sign() <= 0 || x.Cmp(n) >= 0 {
		return false
	}
	if q.Sign() == 0 {
		return new(big.Int).GCD(nil, nil, x, n).Cmp(one) == 0
	}
	return new(big.Int).Exp(x, q, n).Cmp(one) == 0
}

// members returns the elements of a well-formed group with a small modulus.
func members(g api.Group) []api.Nat {
	var list []api.Nat
	for x := int64(0); x < toBig(g.Modulus).Int64(); x++ {
		if member(g, big.NewInt(x)) {
			list = append(list, nat(uint64(x)))
		}
	}
	return list
}

// random returns a random element of a well-formed group.
func random(r *rand.Rand, g api.Group) api.Nat {
	n, one := toBig(g.Modulus), big.NewInt(1)
	for {
		x := new(big.Int).Rand(r, n)
		if g.Order != "" && r.Intn(10) > 0 {
			// Almost all results are elements if Modulus is prime.
			x.Exp(x, new(big.Int).Div(new(big.Int).Sub(n, one), toBig(g.Order)), n)
		}
		if member(g, x) {
			return fromBig(x)
		}
	}
}

// randomInt returns an integer whose magnitude has at most the given number of bits, which is at most 1024.
func randomInt(r *rand.Rand, bits int) api.Int {
	n := new(big.Int).Rand(r, new(big.Int).Lsh(big.NewInt(1), uint(r.Intn(bits+1))))
	if r.Intn(2) == 0 {
		n.Neg(n)
	}
	return fromSigned(n)
}

// raised returns a power by the definition, with the inverse for a negative exponent.
func raised(g api.Group, x api.Nat, e api.Int) *big.Int {
	n, a := toBig(g.Modulus), toBig(x)
	if e.Neg {
		a.ModInverse(a, n)
	}
	return a.Exp(a, toBig(e.Abs), n)
}

// multiplied returns a product by the definition.
func multiplied(g api.Group, list ...*big.Int) *big.Int {
	p := big.NewInt(1)
	for _, x := range list {
		p.Mul(p, x).Mod(p, toBig(g.Modulus))
	}
	return p
}

// expect checks the number that a function returned.
func expect(t *testing.T, what string, g api.Group, got api.Nat, err api.Errno, wanted *big.Int) {
	t.Helper()
	if got != fromBig(wanted) || err != api.OK {
		t.Fatalf("%s in the group %.40x: got %x and error %d, want %x", what, g, got, err, wanted)
	}
}

// refused checks that a function returned an error, and no number.
func refused(t *testing.T, what string, g api.Group, got api.Nat, err, wanted api.Errno) {
	t.Helper()
	if got != "" || err != wanted {
		t.Errorf("%s in the group %.40x: got %x and error %d, want error %d", what, g, got, err, wanted)
	}
}
