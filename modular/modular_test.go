package modular

import (
	"math/big"
	"math/rand"
	"testing"

	"domino/api"
	"domino/integer"
)

// checkArithmetic compares Add, Sub and Mul with package big.
func checkArithmetic(t *testing.T, a, b, m api.Nat) {
	t.Helper()
	for _, f := range []struct {
		what  string
		f     func(a, b, m api.Nat) (api.Nat, api.Errno)
		exact func(z, x, y *big.Int) *big.Int
	}{{"Add", Add, (*big.Int).Add}, {"Sub", Sub, (*big.Int).Sub}, {"Mul", Mul, (*big.Int).Mul}} {
		got, err := f.f(a, b, m)
		if m == "" {
			refused(t, f.what+" modulo 0", got, err, api.ErrZero)
			continue
		}
		wanted := f.exact(new(big.Int), toBig(a), toBig(b))
		expect(t, f.what, got, err, wanted.Mod(wanted, toBig(m)), a, b, m)
	}
}

// P3.1.
func TestAddSubMul(t *testing.T) {
	for _, a := range edges() {
		for _, b := range edges() {
			for _, m := range edges() {
				checkArithmetic(t, a, b, m)
			}
		}
	}
	for a := range uint64(12) {
		for b := range uint64(12) {
			for m := range uint64(12) {
				checkArithmetic(t, nat(a), nat(b), nat(m))
			}
		}
	}
	r := rand.New(rand.NewSource(1))
	for range 20000 {
		checkArithmetic(t, random(r, 128), random(r, 128), modulus(r, 1+r.Intn(128)))
	}
}

// P3.1: products and moduli for which a word of the quotient is guessed too large, by 1 and by 2.
func TestMulWithWrongGuesses(t *testing.T) {
	r := rand.New(rand.NewSource(2))
	for range 100000 {
		a, b, m := randomWords(r, 16), randomWords(r, 16), randomWords(r, 1+r.Intn(16))
		if m == "" {
			continue
		}
		got, err := Mul(a, b, m)
		wanted := new(big.Int).Mul(toBig(a), toBig(b))
		expect(t, "Mul", got, err, wanted.Mod(wanted, toBig(m)), a, b, m)
	}
}

// checkExp compares Exp and Power with package big.
func checkExp(t *testing.T, a, e, m api.Nat) {
	t.Helper()
	wanted := new(big.Int).Exp(toBig(a), toBig(e), toBig(m))
	got, err := Exp(a, e, m)
	expect(t, "Exp", got, err, wanted, a, e, m)
	got, err = Power(a, integer.From(e), m)
	expect(t, "Power", got, err, wanted, a, e, m)
	if e == "" {
		return
	}
	got, err = Power(a, api.Int{Neg: true, Abs: e}, m)
	inverse := new(big.Int).ModInverse(toBig(a), toBig(m))
	if inverse == nil {
		refused(t, "Power of a number without inverse", got, err, api.ErrNone)
		return
	}
	expect(t, "Power with a negative exponent", got, err, inverse.Exp(inverse, toBig(e), toBig(m)), a, e, m)
}

// P3.1.
func TestExp(t *testing.T) {
	for a := range uint64(14) {
		for e := range uint64(20) {
			for m := uint64(1); m < 14; m++ {
				checkExp(t, nat(a), nat(e), nat(m))
			}
		}
	}
	for _, a := range []api.Nat{"", "\x01", "\x02", "\x0f", ones(8), long(1, 9), ones(128), ones(127) + "\xfe"} {
		for _, e := range []api.Nat{"", "\x01", "\x02", "\x03", long(1, 16), ones(128), long(0x80, 128)} {
			for _, m := range edges() {
				if m != "" {
					checkExp(t, a, e, m)
				}
			}
		}
	}
	r := rand.New(rand.NewSource(3))
	for range 2000 {
		checkExp(t, random(r, 128), random(r, 16), modulus(r, 1+r.Intn(128)))
	}
	for range 50 {
		checkExp(t, random(r, 128), random(r, 128), modulus(r, 128))
	}
}

// checkInverse checks the definition of an inverse, and that it is missing only if there is none.
func checkInverse(t *testing.T, a, m api.Nat) {
	t.Helper()
	got, err := Inverse(a, m)
	wanted := new(big.Int).ModInverse(toBig(a), toBig(m))
	switch {
	case m == "\x01":
		expect(t, "Inverse", got, err, new(big.Int), a, m)
	case wanted == nil:
		refused(t, "Inverse of a number that has none", got, err, api.ErrNone)
	default:
		expect(t, "Inverse", got, err, wanted, a, m)
	}
}

// P3.1.
func TestInverse(t *testing.T) {
	for a := range uint64(60) {
		for m := uint64(1); m < 60; m++ {
			checkInverse(t, nat(a), nat(m))
		}
	}
	for _, a := range edges() {
		for _, m := range edges() {
			if m != "" {
				checkInverse(t, a, m)
			}
		}
	}
	r := rand.New(rand.NewSource(4))
	for range 1000 {
		checkInverse(t, random(r, 128), modulus(r, 128))
	}
}

// P3.1.
func TestExamples(t *testing.T) {
	for _, c := range []struct {
		what    string
		f       func(a, b, m api.Nat) (api.Nat, api.Errno)
		a, b, m uint64
		wanted  uint64
	}{
		{"Sub", Sub, 2, 5, 7, 4}, {"Add", Add, 11, 7, 15, 3}, {"Sub", Sub, 2, 11, 15, 6}, {"Mul", Mul, 11, 7, 15, 2},
		{"Exp", Exp, 2, 10, 15, 4}, {"Exp", Exp, 3, 4, 7, 4}, {"Exp", Exp, 0, 0, 1, 0}, {"Exp", Exp, 9, 0, 1, 0}, {"Exp", Exp, 0, 0, 2, 1}, {"Exp", Exp, 0, 5, 7, 0},
	} {
		got, err := c.f(nat(c.a), nat(c.b), nat(c.m))
		expect(t, c.what, got, err, new(big.Int).SetUint64(c.wanted), nat(c.a), nat(c.b), nat(c.m))
	}
	got, err := Power(nat(3), integer.Of(-1), nat(7))
	expect(t, "Power", got, err, big.NewInt(5))
	got, err = Power(nat(4), integer.Of(-3), nat(1))
	expect(t, "Power modulo 1", got, err, new(big.Int))
	got, err = Power("", integer.Of(0), nat(7))
	expect(t, "0^0", got, err, big.NewInt(1))
	got, err = Power(nat(7), integer.Of(-1), nat(7))
	refused(t, "Power of a multiple of the modulus", got, err, api.ErrNone)
	got, err = Inverse(nat(10), nat(7))
	expect(t, "Inverse", got, err, big.NewInt(5))
	got, err = Inverse(nat(2), nat(15))
	expect(t, "Inverse", got, err, big.NewInt(8))
	got, err = Inverse("", nat(1))
	expect(t, "Inverse modulo 1", got, err, new(big.Int))
	for _, c := range []struct{ a, m uint64 }{{6, 9}, {3, 15}, {0, 7}, {14, 7}} {
		got, err = Inverse(nat(c.a), nat(c.m))
		refused(t, "Inverse of a number that has none", got, err, api.ErrNone)
	}
}

// P3.1: ErrForm comes first, then ErrZero, then ErrNone.
func TestErrors(t *testing.T) {
	power := func(a, e, m api.Nat) (api.Nat, api.Errno) { return Power(a, api.Int{Abs: e}, m) }
	inverted := func(a, e, m api.Nat) (api.Nat, api.Errno) { return Power(a, api.Int{Neg: true, Abs: e}, m) }
	inverse := func(a, _, m api.Nat) (api.Nat, api.Errno) { return Inverse(a, m) }
	all := []func(a, b, m api.Nat) (api.Nat, api.Errno){Add, Sub, Mul, Exp, power, inverted, inverse}
	for i, f := range all {
		for _, bad := range invalid() {
			for _, other := range []api.Nat{"", "\x01", "\x02", ones(128)} {
				got, err := f(bad, "\x01", other)
				refused(t, "first argument", got, err, api.ErrForm)
				got, err = f(other, "\x01", bad)
				refused(t, "modulus", got, err, api.ErrForm)
				if i < len(all)-1 {
					got, err = f(other, bad, other)
					refused(t, "second argument", got, err, api.ErrForm)
				}
			}
		}
		for _, a := range edges() {
			got, err := f(a, "\x03", "")
			refused(t, "modulus 0", got, err, api.ErrZero)
		}
	}
	got, err := inverted("\x03", "", "\x07")
	refused(t, "exponent -0", got, err, api.ErrForm)
	got, err = inverted("\x03", "", "")
	refused(t, "exponent -0 and modulus 0", got, err, api.ErrForm)
	got, err = Power("\x06", integer.Of(-1), "")
	refused(t, "no inverse and modulus 0", got, err, api.ErrZero)
}

// must returns the result of an operation that has no error.
func must(t *testing.T, f func(a, b, m api.Nat) (api.Nat, api.Errno), a, b, m api.Nat) api.Nat {
	t.Helper()
	c, err := f(a, b, m)
	if err != api.OK {
		t.Fatalf("error %d for %x, %x and %x", err, a, b, m)
	}
	return c
}

// P3.3.
func TestLaws(t *testing.T) {
	r := rand.New(rand.NewSource(5))
	for range 3000 {
		a, b, c, m := random(r, 128), random(r, 128), random(r, 128), modulus(r, 128)
		e, f := random(r, 4), random(r, 4)
		call := func(f func(a, b, m api.Nat) (api.Nat, api.Errno), a, b api.Nat) api.Nat {
			t.Helper()
			return must(t, f, a, b, m)
		}
		equal := func(law string, x, y api.Nat) {
			t.Helper()
			if x != y {
				t.Fatalf("%s: %x and %x for %x, %x, %x, %x, %x modulo %x", law, x, y, a, b, c, e, f, m)
			}
		}
		equal("a + b = b + a", call(Add, a, b), call(Add, b, a))
		equal("a b = b a", call(Mul, a, b), call(Mul, b, a))
		equal("(a + b) + c = a + (b + c)", call(Add, call(Add, a, b), c), call(Add, a, call(Add, b, c)))
		equal("(a b) c = a (b c)", call(Mul, call(Mul, a, b), c), call(Mul, a, call(Mul, b, c)))
		equal("a (b + c) = a b + a c", call(Mul, a, call(Add, b, c)), call(Add, call(Mul, a, b), call(Mul, a, c)))
		equal("(a + b) - b = a", call(Sub, call(Add, a, b), b), call(Add, a, ""))
		sum := fromBig(new(big.Int).Add(toBig(e), toBig(f)))
		product := fromBig(new(big.Int).Mul(toBig(e), toBig(f)))
		equal("a^(e + f) = a^e a^f", call(Exp, a, sum), call(Mul, call(Exp, a, e), call(Exp, a, f)))
		equal("a^(e f) = (a^e)^f", call(Exp, a, product), call(Exp, call(Exp, a, e), f))
		if inverse, err := Inverse(a, m); err == api.OK {
			again, err := Inverse(inverse, m)
			equal("the inverse of the inverse", again, call(Add, a, ""))
			equal("no error", "", nat(uint64(err)))
		}
	}
}

// A function that yields may be left before its end.
func TestDigitsCanBeLeft(t *testing.T) {
	var got []bool
	for one := range digits("\x0d") {
		got = append(got, one)
		if len(got) == 3 {
			break
		}
	}
	if len(got) != 3 || !got[0] || !got[1] || got[2] {
		t.Errorf("the first digits of 13: got %v", got)
	}
}
