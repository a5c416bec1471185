package integer

import (
	"math/big"
	"math/rand"
	"testing"

	"domino/api"
)

// P2.2.
func TestAddSubMul(t *testing.T) {
	check := func(a, b api.Int) {
		sum, err := Add(a, b)
		expect(t, "Add", a, b, sum, err, new(big.Int).Add(toBig(a), toBig(b)))
		difference, err := Sub(a, b)
		expect(t, "Sub", a, b, difference, err, new(big.Int).Sub(toBig(a), toBig(b)))
		product, err := Mul(a, b)
		expect(t, "Mul", a, b, product, err, new(big.Int).Mul(toBig(a), toBig(b)))
	}
	pairs(check)
	r := rand.New(rand.NewSource(2))
	for range 5000 {
		check(random(r, 64), random(r, 64))
	}
}

// P2.2.
func TestResultsOf128And129Bytes(t *testing.T) {
	most, least := api.Int{Abs: ones(128)}, api.Int{Neg: true, Abs: ones(128)}
	almost := api.Int{Abs: ones(127) + "\xfe"}
	for _, c := range []struct {
		what   string
		f      func(a, b api.Int) (api.Int, api.Errno)
		a, b   api.Int
		wanted api.Int
		err    api.Errno
	}{
		{"Add", Add, almost, Of(1), most, api.OK},
		{"Add", Add, most, Of(1), api.Int{}, api.ErrLong},
		{"Add", Add, most, Of(-1), almost, api.OK},
		{"Add", Add, Of(-1), least, api.Int{}, api.ErrLong},
		{"Add", Add, least, most, api.Int{}, api.OK},
		{"Sub", Sub, least, Of(1), api.Int{}, api.ErrLong},
		{"Sub", Sub, Neg(almost), Of(1), least, api.OK},
		{"Sub", Sub, most, most, api.Int{}, api.OK},
		{"Sub", Sub, most, least, api.Int{}, api.ErrLong},
		{"Sub", Sub, Of(1), least, api.Int{}, api.ErrLong},
		{"Mul", Mul, most, Of(-1), least, api.OK},
		{"Mul", Mul, least, Of(2), api.Int{}, api.ErrLong},
		{"Mul", Mul, most, least, api.Int{}, api.ErrLong},
		{"Mul", Mul, api.Int{Abs: long(1, 65)}, api.Int{Neg: true, Abs: long(1, 64)}, api.Int{Neg: true, Abs: long(1, 128)}, api.OK},
		{"Mul", Mul, api.Int{Abs: long(1, 65)}, api.Int{Neg: true, Abs: long(1, 65)}, api.Int{}, api.ErrLong},
		{"Mul", Mul, least, Of(0), api.Int{}, api.OK},
	} {
		got, err := c.f(c.a, c.b)
		if got != c.wanted || err != c.err {
			t.Errorf("%s of %v and %v: got %v and error %d", c.what, toBig(c.a), toBig(c.b), toBig(got), err)
		}
	}
}

// checkDivision compares the results of DivMod, Mod and Divide with those of package big.
func checkDivision(t *testing.T, a, b api.Int) {
	t.Helper()
	q, r, err := DivMod(a, b)
	exact, exactErr := Divide(a, b)
	rest, restErr := Mod(a, b.Abs)
	if b.Abs == "" {
		refused(t, "DivMod", q, err, api.ErrZero)
		refused(t, "Divide", exact, exactErr, api.ErrZero)
		refused(t, "Mod", api.Int{Abs: r + rest}, restErr, api.ErrZero)
		return
	}
	wantedQ, wantedR := new(big.Int).DivMod(toBig(a), toBig(b), new(big.Int))
	expect(t, "quotient", a, b, q, err, wantedQ)
	expect(t, "remainder", a, b, api.Int{Abs: r}, err, wantedR)
	expect(t, "Mod", a, b, api.Int{Abs: rest}, restErr, wantedR)
	if wantedR.Sign() != 0 {
		refused(t, "Divide", exact, exactErr, api.ErrArg)
		return
	}
	expect(t, "Divide", a, b, exact, exactErr, wantedQ)
}

// P2.3.
func TestDivision(t *testing.T) {
	pairs(func(a, b api.Int) {
		checkDivision(t, a, b)
	})
	r := rand.New(rand.NewSource(3))
	for range 2000 {
		b := random(r, 64)
		a, _ := Mul(b, random(r, 64))
		checkDivision(t, a, b)
	}
}

// checkExtended checks the definition of the results of Extended.
func checkExtended(t *testing.T, a, b api.Nat) {
	t.Helper()
	g, x, y, err := Extended(a, b)
	bigA, bigB, bigX := toBig(From(a)), toBig(From(b)), toBig(x)
	if err != api.OK || !Valid(x) || !Valid(y) || toBig(From(g)).Cmp(new(big.Int).GCD(nil, nil, bigA, bigB)) != 0 {
		t.Fatalf("Extended of %v and %v: got %x, %v, %v and error %d", bigA, bigB, g, x, y, err)
	}
	sum := new(big.Int).Mul(bigA, bigX)
	sum.Add(sum, new(big.Int).Mul(bigB, toBig(y)))
	if sum.Cmp(toBig(From(g))) != 0 {
		t.Fatalf("Extended of %v and %v: the coefficients %v and %v are wrong", bigA, bigB, bigX, toBig(y))
	}
	if b == "" {
		if g != a || x != Of(1) || y != Of(0) {
			t.Fatalf("Extended of %v and 0: got %x, %v and %v", bigA, g, x, y)
		}
		return
	}
	if bigX.Sign() < 0 || bigX.Cmp(new(big.Int).Div(bigB, toBig(From(g)))) >= 0 {
		t.Fatalf("Extended of %v and %v: the coefficient %v is outside of its range", bigA, bigB, bigX)
	}
}

// P2.3.
func TestExtended(t *testing.T) {
	for a := range int64(60) {
		for b := range int64(60) {
			checkExtended(t, Of(a).Abs, Of(b).Abs)
		}
	}
	for _, a := range edgeNats() {
		for _, b := range edgeNats() {
			checkExtended(t, a, b)
		}
	}
	r := rand.New(rand.NewSource(4))
	for range 300 {
		checkExtended(t, randomNat(r, 128), randomNat(r, 128))
		g := random(r, 60)
		a, _ := Mul(g, random(r, 68))
		b, _ := Mul(g, random(r, 68))
		checkExtended(t, a.Abs, b.Abs)
	}
}

// P2.3.
func TestExamples(t *testing.T) {
	for _, c := range []struct{ a, b, q, r int64 }{{-7, 2, -4, 1}, {-7, -2, 4, 1}, {7, -2, -3, 1}, {7, 2, 3, 1}, {-8, 2, -4, 0}, {-8, -2, 4, 0}, {0, -3, 0, 0}, {-1, 5, -1, 4}, {-1, -5, 1, 4}} {
		q, r, err := DivMod(Of(c.a), Of(c.b))
		if q != Of(c.q) || From(r) != Of(c.r) || err != api.OK {
			t.Errorf("DivMod of %d and %d: got %v, %x and error %d", c.a, c.b, q, r, err)
		}
	}
	for _, c := range []struct{ a, b, g, x, y int64 }{{12, 18, 6, 2, -1}, {5, 1, 1, 0, 1}, {4, 0, 4, 1, 0}, {0, 0, 0, 1, 0}, {0, 7, 7, 0, 1}, {7, 7, 7, 0, 1}, {1, 7, 1, 1, 0}} {
		g, x, y, err := Extended(Of(c.a).Abs, Of(c.b).Abs)
		if From(g) != Of(c.g) || x != Of(c.x) || y != Of(c.y) || err != api.OK {
			t.Errorf("Extended of %d and %d: got %x, %v, %v and error %d", c.a, c.b, g, x, y, err)
		}
	}
	got, err := Divide(Of(7), Of(2))
	refused(t, "Divide of 7 and 2", got, err, api.ErrArg)
	got, err = Divide(Of(0), Of(0))
	refused(t, "Divide of 0 and 0", got, err, api.ErrZero)
	got, err = Divide(Of(0), Of(-5))
	if got != Of(0) || err != api.OK {
		t.Errorf("Divide of 0 and -5: got %v and error %d", got, err)
	}
}

// P2.2 and P2.3: ErrForm comes before every other error.
func TestArgumentsThatAreNotValid(t *testing.T) {
	divMod := func(a, b api.Int) (api.Int, api.Errno) {
		q, r, err := DivMod(a, b)
		return api.Int{Neg: q.Neg, Abs: q.Abs + r}, err
	}
	mod := func(a api.Int, m api.Nat) (api.Int, api.Errno) {
		r, err := Mod(a, m)
		return api.Int{Abs: r}, err
	}
	extended := func(a, b api.Nat) (api.Int, api.Errno) {
		g, x, y, err := Extended(a, b)
		return api.Int{Neg: x.Neg || y.Neg, Abs: g + x.Abs + y.Abs}, err
	}
	for _, bad := range invalid() {
		for _, f := range []func(a, b api.Int) (api.Int, api.Errno){Add, Sub, Mul, divMod, Divide} {
			for _, other := range []api.Int{{}, Of(1), Of(-1), {Abs: ones(128)}, {Neg: true, Abs: ones(128)}, bad} {
				got, err := f(bad, other)
				refused(t, "first argument", got, err, api.ErrForm)
				got, err = f(other, bad)
				refused(t, "second argument", got, err, api.ErrForm)
			}
		}
		for _, m := range []api.Nat{"", "\x01", "\x00"} {
			got, err := mod(bad, m)
			refused(t, "Mod of an integer that is not valid", got, err, api.ErrForm)
		}
	}
	for _, bad := range invalidNats() {
		got, err := mod(Of(-1), bad)
		refused(t, "Mod by a number that is not canonical", got, err, api.ErrForm)
		for _, other := range []api.Nat{"", "\x01", ones(128), bad} {
			got, err = extended(bad, other)
			refused(t, "Extended, first argument", got, err, api.ErrForm)
			got, err = extended(other, bad)
			refused(t, "Extended, second argument", got, err, api.ErrForm)
		}
	}
}

// P2.5.
func TestLaws(t *testing.T) {
	must := func(a api.Int, err api.Errno) api.Int {
		t.Helper()
		if err != api.OK {
			t.Fatalf("error %d", err)
		}
		return a
	}
	r := rand.New(rand.NewSource(5))
	for range 5000 {
		a, b, c := random(r, 42), random(r, 42), random(r, 42)
		equal := func(law string, x, y api.Int) {
			t.Helper()
			if x != y {
				t.Fatalf("%s: %v and %v for %v, %v and %v", law, x, y, a, b, c)
			}
		}
		equal("a + b = b + a", must(Add(a, b)), must(Add(b, a)))
		equal("a b = b a", must(Mul(a, b)), must(Mul(b, a)))
		equal("(a + b) + c = a + (b + c)", must(Add(must(Add(a, b)), c)), must(Add(a, must(Add(b, c)))))
		equal("(a b) c = a (b c)", must(Mul(must(Mul(a, b)), c)), must(Mul(a, must(Mul(b, c)))))
		equal("a (b + c) = a b + a c", must(Mul(a, must(Add(b, c)))), must(Add(must(Mul(a, b)), must(Mul(a, c)))))
		equal("(a + b) - b = a", must(Sub(must(Add(a, b)), b)), a)
		if Cmp(a, b) <= 0 && Cmp(b, c) <= 0 && Cmp(a, c) > 0 {
			t.Fatalf("Cmp is not transitive for %v, %v and %v", a, b, c)
		}
	}
}
