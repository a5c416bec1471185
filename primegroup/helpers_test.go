package primegroup

import (
	"math/big"
	"math/rand"
	"strings"
	"testing"

	"domino/api"
	"domino/certificate"
	"domino/natural"
)

// nat returns the string of a small number.
func nat(n uint64) api.Nat {
	return natural.Of(n)
}

// toBig returns the number of a string.
func toBig(a api.Nat) *big.Int {
	return new(big.Int).SetBytes([]byte(a))
}

// fromBig returns the canonical string of a number, of any length.
func fromBig(n *big.Int) api.Nat {
	return api.Nat(n.Bytes())
}

// hexadecimal returns the string of the number with these digits.
func hexadecimal(digits string) api.Nat {
	n, _ := new(big.Int).SetString(digits, 16)
	return fromBig(n)
}

// ones returns n bytes 255.
func ones(n int) api.Nat {
	return api.Nat(strings.Repeat("\xff", n))
}

// invalid returns strings that are not canonical.
func invalid() []api.Nat {
	return []api.Nat{"\x00", "\x00\x04", "\x00" + ones(128), "\x01" + ones(128), ones(129), ones(1000)}
}

// group returns a group with small numbers.
func group(p, q uint64) api.Group {
	return api.Group{Modulus: nat(p), Order: nat(q)}
}

// groups returns valid groups of several sizes.
func groups() []api.Group {
	return []api.Group{
		group(3, 2), group(7, 3), group(23, 11), group(23, 2), group(31, 5), group(65537, 2), group(917519, 65537),
		group(18446744073709551557, 5594472617641), group(18446744073709551557, 2), second(), proth(),
	}
}

// second returns the group of RFC 2409, section 6.2, whose modulus is a safe prime of 128 bytes.
func second() api.Group {
	p := hexadecimal("FFFFFFFFFFFFFFFFC90FDAA22168C234C4C6628B80DC1CD129024E088A67CC74020BBEA63B139B22514A08798E3404DDEF9519B3CD3A431B" +
		"302B0A6DF25F14374FE1356D6D51C245E485B576625E7EC6F44C42E9A637ED6B0BFF5CB6F406B7EDEE386BFB5A899FA5AE9F24117C4B1FE649286651ECE65381FFFFFFFFFFFFFFFF")
	return api.Group{Modulus: p, Order: fromBig(new(big.Int).Rsh(toBig(p), 1))}
}

// proth returns a group whose order is 13 * 2^1000 + 1.
func proth() api.Group {
	q := new(big.Int).Lsh(big.NewInt(13), 1000)
	return above(q.Add(q, big.NewInt(1)))
}

// above returns the group with an order and the least modulus.
func above(q *big.Int) api.Group {
	for k := int64(2); ; k += 2 {
		p := new(big.Int).Mul(q, big.NewInt(k))
		if p.Add(p, big.NewInt(1)).ProbablyPrime(0) {
			return api.Group{Modulus: fromBig(p), Order: fromBig(q)}
		}
	}
}

// certified returns the certificate of a prime.
func certified(t *testing.T, n api.Nat) api.Certificate {
	t.Helper()
	c, err := certificate.Find(n)
	if err != api.OK {
		t.Fatalf("no certificate of %x: error %d", n, err)
	}
	return c
}

// member decides by the definition whether x is an element of a group whose numbers are canonical.
func member(g api.Group, x *big.Int) bool {
	p, q := toBig(g.Modulus), toBig(g.Order)
	return x.Sign() > 0 && x.Cmp(p) < 0 && q.Sign() > 0 && new(big.Int).Exp(x, q, p).Cmp(big.NewInt(1)) == 0
}

// members returns the elements of a group with a small modulus.
func members(g api.Group) []api.Nat {
	var list []api.Nat
	for x := int64(0); x < toBig(g.Modulus).Int64(); x++ {
		if member(g, big.NewInt(x)) {
			list = append(list, nat(uint64(x)))
		}
	}
	return list
}

// random returns a random element of a valid group.
func random(r *rand.Rand, g api.Group) api.Nat {
	p, q := toBig(g.Modulus), toBig(g.Order)
	last := new(big.Int).Sub(p, big.NewInt(1))
	x := new(big.Int).Rand(r, last)
	x.Add(x, big.NewInt(1))
	return fromBig(x.Exp(x, last.Div(last, q), p))
}

// randomNumber returns a number of at most the given number of bits.
func randomNumber(r *rand.Rand, bits int) api.Nat {
	return fromBig(new(big.Int).Rand(r, new(big.Int).Lsh(big.NewInt(1), uint(r.Intn(bits+1)))))
}

// expect checks the number that a function returned.
func expect(t *testing.T, what string, g api.Group, got api.Nat, err api.Errno, wanted *big.Int) {
	t.Helper()
	if got != fromBig(wanted) || err != api.OK {
		t.Fatalf("%s in the group %x: got %x and error %d, want %x", what, g, got, err, wanted)
	}
}

// refused checks that a function returned an error, and no number.
func refused(t *testing.T, what string, g api.Group, got api.Nat, err, wanted api.Errno) {
	t.Helper()
	if got != "" || err != wanted {
		t.Errorf("%s in the group %.40x: got %x and error %d, want error %d", what, g, got, err, wanted)
	}
}
