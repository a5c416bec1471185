package natural

import (
	"math/big"
	"math/rand"
	"testing"

	"domino/api"
)

// P1.2.
func TestAdd(t *testing.T) {
	pairs(func(a, b api.Nat) {
		got, err := Add(a, b)
		expect(t, "Add", a, b, got, err, new(big.Int).Add(toBig(a), toBig(b)))
	})
}

// P1.2.
func TestSub(t *testing.T) {
	pairs(func(a, b api.Nat) {
		got, err := Sub(a, b)
		n := new(big.Int).Sub(toBig(a), toBig(b))
		if n.Sign() < 0 {
			refused(t, "Sub", got, err, api.ErrRange)
			return
		}
		expect(t, "Sub", a, b, got, err, n)
	})
}

// P1.2.
func TestMul(t *testing.T) {
	pairs(func(a, b api.Nat) {
		got, err := Mul(a, b)
		expect(t, "Mul", a, b, got, err, new(big.Int).Mul(toBig(a), toBig(b)))
	})
	r := rand.New(rand.NewSource(2))
	for range 20000 {
		a := random(r, 127)
		b := random(r, 128-len(a))
		got, err := Mul(a, b)
		expect(t, "Mul", a, b, got, err, new(big.Int).Mul(toBig(a), toBig(b)))
	}
}

// P1.2.
func TestResultsOf128And129Bytes(t *testing.T) {
	half := long(0x80, 128)
	for _, c := range []struct {
		what   string
		f      func(a, b api.Nat) (api.Nat, api.Errno)
		a, b   api.Nat
		wanted api.Nat
		err    api.Errno
	}{
		{"Add", Add, ones(128), "", ones(128), api.OK},
		{"Add", Add, ones(127) + "\xfe", "\x01", ones(128), api.OK},
		{"Add", Add, ones(128), "\x01", "", api.ErrLong},
		{"Add", Add, half, half, "", api.ErrLong},
		{"Mul", Mul, Of(65535), Of(65537), ones(4), api.OK},
		{"Mul", Mul, long(1, 128), Of(255), long(255, 128), api.OK},
		{"Mul", Mul, long(1, 128), Of(256), "", api.ErrLong},
		{"Mul", Mul, long(1, 65), long(1, 64), long(1, 128), api.OK},
		{"Mul", Mul, long(1, 65), long(1, 65), "", api.ErrLong},
		{"Mul", Mul, half, "\x02", "", api.ErrLong},
		{"Mul", Mul, ones(128), "\x01", ones(128), api.OK},
		{"Mul", Mul, ones(128), "", "", api.OK},
		{"Mul", Mul, ones(128), ones(128), "", api.ErrLong},
	} {
		got, err := c.f(c.a, c.b)
		if got != c.wanted || err != c.err {
			t.Errorf("%s of %x and %x: got %x and error %d", c.what, c.a, c.b, got, err)
		}
	}
}

// checkDivMod compares a quotient and a remainder with those of package big.
func checkDivMod(t *testing.T, a, b api.Nat) {
	t.Helper()
	q, r, err := DivMod(a, b)
	if b == "" {
		refused(t, "DivMod", q+r, err, api.ErrZero)
		return
	}
	wantedQ, wantedR := new(big.Int).QuoRem(toBig(a), toBig(b), new(big.Int))
	expect(t, "quotient", a, b, q, err, wantedQ)
	expect(t, "remainder", a, b, r, err, wantedR)
}

// P1.2.
func TestDivMod(t *testing.T) {
	pairs(func(a, b api.Nat) {
		checkDivMod(t, a, b)
		checkDivMod(t, b, a)
	})
}

// P1.2: quotients whose digits are guessed too large, by 1 and by 2, also after the guess was corrected.
func TestDivModWithWrongGuesses(t *testing.T) {
	digits := func(ds ...uint32) api.Nat {
		n := new(big.Int)
		for _, d := range ds {
			n.Or(n.Lsh(n, 32), big.NewInt(int64(d)))
		}
		return fromBig(n)
	}
	for _, c := range []struct{ a, b api.Nat }{
		{digits(0x80000000, 0, 3), digits(0x20000000, 0, 1)},
		{digits(0x7fff, 0x8000, 0, 0), digits(0x8000, 0, 1)},
		{digits(0x8000, 0, 0xfffe, 0), digits(0x8000, 0xffff)},
		{digits(0x80000000, 0, 0xfffffffe, 0), digits(0x80000000, 0xffffffff)},
		{digits(0x80000000, 0xfffffffe, 0), digits(0x80000000, 0xffffffff)},
		{digits(0xffffffff, 0xffffffff, 0xffffffff), digits(0xffffffff, 0xffffffff)},
		{digits(0xffffffff, 0xfffffffe, 0xffffffff, 0xffffffff), digits(0xffffffff, 0xffffffff, 0xffffffff)},
		{digits(0x80000000, 0, 0, 0), digits(0x80000000, 0, 1)},
		{digits(0x80000000, 0, 0xffffffff, 0xffffffff), digits(0x80000000, 0, 0xffffffff)},
	} {
		checkDivMod(t, c.a, c.b)
	}
	special := []uint32{0, 1, 2, 0x7fffffff, 0x80000000, 0x80000001, 0xfffffffe, 0xffffffff}
	r := rand.New(rand.NewSource(3))
	some := func(n int) []uint32 {
		ds := make([]uint32, n)
		for i := range ds {
			ds[i] = special[r.Intn(len(special))]
		}
		return ds
	}
	for range 100000 {
		checkDivMod(t, digits(some(r.Intn(10))...), digits(some(1+r.Intn(5))...))
	}
}

// P1.2.
func TestGcd(t *testing.T) {
	check := func(a, b api.Nat) {
		got, err := Gcd(a, b)
		expect(t, "Gcd", a, b, got, err, new(big.Int).GCD(nil, nil, toBig(a), toBig(b)))
	}
	for _, a := range edges() {
		for _, b := range edges() {
			check(a, b)
		}
	}
	r := rand.New(rand.NewSource(4))
	for range 500 {
		g := random(r, 64)
		a, _ := Mul(g, random(r, 64))
		b, _ := Mul(g, random(r, 64))
		check(a, b)
	}
	check(Of(84), Of(36))
	check("", "")
	check("", ones(128))
	check(ones(128), "")
}

// P1.2.
func TestSqrt(t *testing.T) {
	check := func(a api.Nat) {
		got, err := Sqrt(a)
		expect(t, "Sqrt", a, "", got, err, new(big.Int).Sqrt(toBig(a)))
	}
	for n := range uint64(70000) {
		check(Of(n))
	}
	for _, a := range edges() {
		check(a)
	}
	r := rand.New(rand.NewSource(5))
	for range 500 {
		root := random(r, 64)
		square, _ := Mul(root, root)
		below, _ := Sub(square, Of(1))
		above, _ := Add(square, Of(1))
		check(square)
		check(below)
		check(above)
		check(random(r, 128))
	}
}

// P1.2: ErrForm comes before every other error.
func TestArgumentsThatAreNotCanonical(t *testing.T) {
	second := func(f func(a, b api.Nat) (api.Nat, api.Nat, api.Errno)) func(a, b api.Nat) (api.Nat, api.Errno) {
		return func(a, b api.Nat) (api.Nat, api.Errno) {
			q, r, err := f(a, b)
			return q + r, err
		}
	}
	for _, bad := range invalid() {
		for _, f := range []func(a, b api.Nat) (api.Nat, api.Errno){Add, Sub, Mul, second(DivMod), Gcd} {
			for _, other := range []api.Nat{"", "\x01", ones(128), bad} {
				got, err := f(bad, other)
				refused(t, "first argument", got, err, api.ErrForm)
				got, err = f(other, bad)
				refused(t, "second argument", got, err, api.ErrForm)
			}
		}
		got, err := Sqrt(bad)
		refused(t, "Sqrt", got, err, api.ErrForm)
	}
}

// P1.2.
func TestExamples(t *testing.T) {
	q, r, err := DivMod(Of(1000), Of(7))
	if q != Of(142) || r != Of(6) || err != api.OK {
		t.Errorf("DivMod of 1000 and 7: got %x, %x and error %d", q, r, err)
	}
	if g, err := Gcd(Of(84), Of(36)); g != Of(12) || err != api.OK {
		t.Errorf("Gcd of 84 and 36: got %x and error %d", g, err)
	}
	if x, err := Sqrt(Of(99)); x != Of(9) || err != api.OK {
		t.Errorf("Sqrt of 99: got %x and error %d", x, err)
	}
	got, err := Sub(Of(1), Of(2))
	refused(t, "1 - 2", got, err, api.ErrRange)
	q, r, err = DivMod("", "")
	refused(t, "0 / 0", q+r, err, api.ErrZero)
	q, r, err = DivMod(ones(128), "")
	refused(t, "division by 0", q+r, err, api.ErrZero)
}

// must returns the result of an operation that has no error.
func must(t *testing.T, f func(a, b api.Nat) (api.Nat, api.Errno), a, b api.Nat) api.Nat {
	t.Helper()
	c, err := f(a, b)
	if err != api.OK {
		t.Fatalf("error %d for %x and %x", err, a, b)
	}
	return c
}

// P1.4.
func TestLaws(t *testing.T) {
	r := rand.New(rand.NewSource(6))
	for range 5000 {
		a, b, c := random(r, 42), random(r, 42), random(r, 42)
		equal := func(law string, x, y api.Nat) {
			t.Helper()
			if x != y {
				t.Fatalf("%s: %x and %x for %x, %x and %x", law, x, y, a, b, c)
			}
		}
		equal("a + b = b + a", must(t, Add, a, b), must(t, Add, b, a))
		equal("a b = b a", must(t, Mul, a, b), must(t, Mul, b, a))
		equal("(a + b) + c = a + (b + c)", must(t, Add, must(t, Add, a, b), c), must(t, Add, a, must(t, Add, b, c)))
		equal("(a b) c = a (b c)", must(t, Mul, must(t, Mul, a, b), c), must(t, Mul, a, must(t, Mul, b, c)))
		equal("a (b + c) = a b + a c", must(t, Mul, a, must(t, Add, b, c)), must(t, Add, must(t, Mul, a, b), must(t, Mul, a, c)))
		equal("(a + b) - b = a", must(t, Sub, must(t, Add, a, b), b), a)
		if b == "" {
			continue
		}
		q, rest, err := DivMod(a, b)
		if err != api.OK || Cmp(rest, b) >= 0 {
			t.Fatalf("DivMod of %x and %x: error %d, or the remainder %x is too large", a, b, err, rest)
		}
		equal("a = q b + r", must(t, Add, must(t, Mul, q, b), rest), a)
	}
}
