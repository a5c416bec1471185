package pedersen

import (
	"math"
	"math/big"
	"math/rand"
	"slices"
	"strings"
	"testing"

	"domino/api"
	"domino/integer"
	"domino/natural"
)

// nat returns the string of a small number.
func nat(n uint64) api.Nat {
	return natural.Of(n)
}

// nats returns the strings of small numbers.
func nats(l ...uint64) []api.Nat {
	var out []api.Nat
	for _, n := range l {
		out = append(out, nat(n))
	}
	return out
}

// open returns the opening with small integers.
func open(value, random int64) api.Opening {
	return api.Opening{Value: integer.Of(value), Random: integer.Of(random)}
}

// toBig returns the number of a string.
func toBig(a api.Nat) *big.Int {
	return new(big.Int).SetBytes([]byte(a))
}

// toSigned returns the number of an integer.
func toSigned(a api.Int) *big.Int {
	if a.Neg {
		return new(big.Int).Neg(toBig(a.Abs))
	}
	return toBig(a.Abs)
}

// fromBig returns the canonical string of a number, of any length.
func fromBig(n *big.Int) api.Nat {
	return api.Nat(n.Bytes())
}

// fromSigned returns the integer of a number.
func fromSigned(n *big.Int) api.Int {
	return api.Int{Neg: n.Sign() < 0, Abs: fromBig(n)}
}

// hexadecimal returns the string of the number with these digits.
func hexadecimal(digits string) api.Nat {
	n, _ := new(big.Int).SetString(digits, 16)
	return fromBig(n)
}

// long returns base^exponent plus a small number.
func long(base, exponent, more int64) *big.Int {
	n := new(big.Int).Exp(big.NewInt(base), big.NewInt(exponent), nil)
	return n.Add(n, big.NewInt(more))
}

// ones returns n bytes 255.
func ones(n int) api.Nat {
	return api.Nat(strings.Repeat("\xff", n))
}

// invalid returns strings that are not canonical.
func invalid() []api.Nat {
	return []api.Nat{"\x00", "\x00\x04", "\x00\x17", "\x00" + ones(128), "\x01" + ones(128), ones(129), ones(1000)}
}

// invalidInts returns integers that are not valid.
func invalidInts() []api.Int {
	out := []api.Int{{Neg: true}}
	for _, bad := range invalid() {
		out = append(out, api.Int{Abs: bad}, api.Int{Neg: true, Abs: bad})
	}
	return out
}

// invalidOpenings returns openings that are not valid.
func invalidOpenings() []api.Opening {
	var out []api.Opening
	for _, bad := range invalidInts() {
		out = append(out, api.Opening{Value: bad}, api.Opening{Random: bad}, api.Opening{Value: bad, Random: bad})
	}
	return out
}

// malformed returns tapes that are not well-formed.
func malformed() []api.Tape {
	out := []api.Tape{{At: -1}, {At: math.MinInt}, {At: math.MaxInt32 + 1}, {Seed: "a", At: math.MaxInt32 + 1}, {Seed: "a", At: -1}, {Values: nats(1, 1), At: -1}}
	for _, bad := range invalid() {
		out = append(out, api.Tape{Values: []api.Nat{bad}}, api.Tape{Values: []api.Nat{"\x01", "\x01", bad}}, api.Tape{Values: []api.Nat{bad}, Seed: "a", At: 1})
	}
	return out
}

// group returns a group with small numbers.
func group(p, q uint64) api.Group {
	return api.Group{Modulus: nat(p), Order: nat(q)}
}

// key returns a key with small numbers.
func key(p, q, g, h uint64) api.Pedersen {
	return api.Pedersen{Group: group(p, q), G: nat(g), H: nat(h)}
}

// second returns the group of RFC 2409, section 6.2, whose modulus is a safe prime of 128 bytes.
func second() api.Group {
	p := hexadecimal("FFFFFFFFFFFFFFFFC90FDAA22168C234C4C6628B80DC1CD129024E088A67CC74020BBEA63B139B22514A08798E3404DDEF9519B3CD3A431B" +
		"302B0A6DF25F14374FE1356D6D51C245E485B576625E7EC6F44C42E9A637ED6B0BFF5CB6F406B7EDEE386BFB5A899FA5AE9F24117C4B1FE649286651ECE65381FFFFFFFFFFFFFFFF")
	return api.Group{Modulus: p, Order: fromBig(new(big.Int).Rsh(toBig(p), 1))}
}

// labelled returns the key of the second group for the label "a label", calculated with another program.
func labelled() api.Pedersen {
	return api.Pedersen{
		Group: second(),
		G:     hexadecimal("2b4273b2023be3ad2ce9cfc34e159395346ba39495151591cec578c58005d9ed6dba899dd7a8db72c5c3f6bb8d8911163af1451186fbb44f6aed227eb414331"),
		H:     hexadecimal("b2f2c30ff64634f69f3b7efdaf7016feb087a3932f10be793d0b522b2254116462821304d8a13b91964fa5b7b3330189536200dae40b71391c285456a3773244"),
	}
}

// keys returns well-formed keys of several sizes; one has a group whose Modulus is composite, and one a group whose Order is composite.
func keys() []api.Pedersen {
	return []api.Pedersen{
		key(7, 3, 2, 4), key(23, 11, 4, 3), key(23, 22, 5, 22), key(15, 2, 4, 11), key(1187, 593, 121, 675), key(18446744073709551557, 5594472617641, 16707000705174350219, 5407617574896090429), labelled(),
		key(9, 0, 2, 8), key(77, 0, 4, 9), key(1081, 0, 2, 3), key(18446744073709551615, 0, 2, 7), {Group: api.Group{Modulus: ones(128)}, G: nat(7), H: nat(11)},
	}
}

// invalidKeys returns keys with a number that is not canonical.
func invalidKeys() []api.Pedersen {
	var out []api.Pedersen
	for _, k := range append(keys(), misformed()...) {
		for _, bad := range invalid() {
			for i := range 4 {
				edited := k
				*[]*api.Nat{&edited.Group.Modulus, &edited.Group.Order, &edited.G, &edited.H}[i] = bad
				out = append(out, edited)
			}
		}
	}
	return out
}

// misformed returns keys with canonical numbers that are not well-formed.
func misformed() []api.Pedersen {
	out := []api.Pedersen{
		{}, key(23, 10, 4, 3), key(23, 1, 1, 1), key(1, 11, 4, 3), key(0, 11, 4, 3), key(7, 0, 2, 3), key(8, 0, 3, 5), key(78, 0, 5, 7), // the group
		key(23, 11, 1, 3), key(23, 11, 4, 1), key(23, 11, 4, 4), key(23, 11, 5, 3), key(23, 11, 4, 22), key(23, 11, 0, 3), key(23, 11, 4, 23), key(23, 11, 27, 3),
		key(77, 0, 1, 9), key(77, 0, 4, 1), key(77, 0, 4, 4), key(77, 0, 7, 9), key(77, 0, 4, 11), key(77, 0, 0, 9), key(77, 0, 4, 77), key(77, 0, 81, 9),
	}
	k := labelled()
	k.H = k.G
	return append(out, k)
}

// wellFormed decides by the definition whether a key is well-formed.
func wellFormed(k api.Pedersen) bool {
	n, q, one := toBig(k.Group.Modulus), toBig(k.Group.Order), big.NewInt(1)
	if q.Sign() == 0 && (n.Bit(0) == 0 || n.Cmp(big.NewInt(8)) <= 0) {
		return false
	}
	last := new(big.Int).Sub(n, one)
	if q.Sign() > 0 && (q.Cmp(one) == 0 || n.Cmp(one) <= 0 || last.Mod(last, q).Sign() != 0) {
		return false
	}
	return k.G != nat(1) && k.H != nat(1) && k.G != k.H && member(k.Group, k.G) && member(k.Group, k.H)
}

// member decides by the definition whether x is an element of a well-formed group.
func member(g api.Group, x api.Nat) bool {
	n, q, one := toBig(g.Modulus), toBig(g.Order), big.NewInt(1)
	if x == "" || toBig(x).Cmp(n) >= 0 {
		return false
	}
	if q.Sign() == 0 {
		return new(big.Int).GCD(nil, nil, toBig(x), n).Cmp(one) == 0
	}
	return new(big.Int).Exp(toBig(x), q, n).Cmp(one) == 0
}

// members returns the elements of a well-formed group with a small modulus.
func members(g api.Group) []api.Nat {
	var list []api.Nat
	for x := uint64(0); x < toBig(g.Modulus).Uint64(); x++ {
		if member(g, nat(x)) {
			list = append(list, nat(x))
		}
	}
	return list
}

// randomInt returns an integer whose magnitude has at most the given number of bits.
func randomInt(r *rand.Rand, bits int) api.Int {
	n := new(big.Int).Rand(r, new(big.Int).Lsh(big.NewInt(1), uint(r.Intn(bits+1))))
	if r.Intn(2) == 0 {
		n.Neg(n)
	}
	return fromSigned(n)
}

// randomOpening returns an opening whose numbers have at most the given number of bits.
func randomOpening(r *rand.Rand, bits int) api.Opening {
	return api.Opening{Value: randomInt(r, bits), Random: randomInt(r, bits)}
}

// raised returns a power by the definition, with the inverse for a negative exponent.
func raised(g api.Group, x api.Nat, e api.Int) *big.Int {
	n, a := toBig(g.Modulus), toBig(x)
	if e.Neg {
		a.ModInverse(a, n)
	}
	return a.Exp(a, toBig(e.Abs), n)
}

// committed returns a commitment by the definition.
func committed(k api.Pedersen, o api.Opening) *big.Int {
	p := raised(k.Group, k.G, o.Value)
	p.Mul(p, raised(k.Group, k.H, o.Random))
	return p.Mod(p, toBig(k.Group.Modulus))
}

// commitment returns a commitment by the definition, as a number.
func commitment(k api.Pedersen, o api.Opening) api.Nat {
	return fromBig(committed(k, o))
}

// lowered returns an integer that is reduced for a key, by the definition.
func lowered(k api.Pedersen, a *big.Int) api.Int {
	if k.Group.Order == "" {
		return fromSigned(a)
	}
	return fromSigned(new(big.Int).Mod(a, toBig(k.Group.Order)))
}

// sameTape reports whether two tapes are equal.
func sameTape(a, b api.Tape) bool {
	return slices.Equal(a.Values, b.Values) && a.Seed == b.Seed && a.At == b.At
}

// expect checks what a function returned.
func expect[T comparable](t *testing.T, what string, k api.Pedersen, got T, err api.Errno, wanted T) {
	t.Helper()
	if got != wanted || err != api.OK {
		t.Fatalf("%s with the key %.40v: got %.60v and error %d, want %.60v", what, k, got, err, wanted)
	}
}

// refused checks that a function returned an error beside a zero value.
func refused[T comparable](t *testing.T, what string, k api.Pedersen, got T, err, wanted api.Errno) {
	t.Helper()
	if got != *new(T) || err != wanted {
		t.Errorf("%s with the key %.40v: got %.60v and error %d, want error %d", what, k, got, err, wanted)
	}
}
