package modular

import (
	"math/big"
	"math/rand"
	"testing"

	"domino/api"
)

// checkJoin compares Join with its definition: a solution less than the least common multiple is unique.
func checkJoin(t *testing.T, a, m, b, n api.Nat) {
	t.Helper()
	x, multiple, err := Join(a, m, b, n)
	bigA, bigM, bigB, bigN := toBig(a), toBig(m), toBig(b), toBig(n)
	g := new(big.Int).GCD(nil, nil, bigM, bigN)
	least := new(big.Int).Mul(bigM, new(big.Int).Div(bigN, g))
	gap := new(big.Int).Sub(bigA, bigB)
	switch {
	case gap.Mod(gap, g).Sign() != 0:
		refused(t, "Join without a solution", x+multiple, err, api.ErrNone)
		return
	case least.BitLen() > 8*api.MaxBytes:
		refused(t, "Join with a long multiple", x+multiple, err, api.ErrLong)
		return
	}
	expect(t, "multiple", multiple, err, least, a, m, b, n)
	bigX := toBig(x)
	congruent := func(y, modulus *big.Int) bool {
		d := new(big.Int).Sub(bigX, y)
		return d.Mod(d, modulus).Sign() == 0
	}
	if !congruent(bigA, bigM) || !congruent(bigB, bigN) || bigX.Cmp(least) >= 0 || fromBig(bigX) != x {
		t.Fatalf("Join of %x, %x, %x, %x: the result %x is wrong", a, m, b, n, x)
	}
}

// P3.2.
func TestJoin(t *testing.T) {
	for m := uint64(1); m < 13; m++ {
		for n := uint64(1); n < 13; n++ {
			for a := range m + 3 {
				for b := range n + 3 {
					checkJoin(t, nat(a), nat(m), nat(b), nat(n))
				}
			}
		}
	}
	for _, m := range edges() {
		for _, n := range edges() {
			if m != "" && n != "" {
				checkJoin(t, ones(128), m, "\x01", n)
				checkJoin(t, "", m, long(1, 128), n)
				checkJoin(t, ones(127), m, ones(127), n)
			}
		}
	}
	r := rand.New(rand.NewSource(6))
	for range 5000 {
		checkJoin(t, random(r, 128), modulus(r, 64), random(r, 128), modulus(r, 64))
		g := toBig(modulus(r, 40))
		m := new(big.Int).Mul(g, toBig(modulus(r, 40)))
		n := new(big.Int).Mul(g, toBig(modulus(r, 40)))
		a := random(r, 127)
		b := new(big.Int).Add(toBig(a), new(big.Int).Mul(g, toBig(random(r, 40))))
		checkJoin(t, a, fromBig(m), fromBig(b), fromBig(n))
	}
}

// P3.2.
func TestJoinExamples(t *testing.T) {
	for _, c := range []struct {
		a, m, b, n, x, multiple uint64
		err                     api.Errno
	}{
		{2, 3, 3, 5, 8, 15, api.OK}, {1, 4, 3, 6, 9, 12, api.OK}, {1, 4, 2, 6, 0, 0, api.ErrNone}, {9, 1, 8, 1, 0, 1, api.OK},
		{5, 7, 5, 7, 5, 7, api.OK}, {12, 7, 5, 7, 5, 7, api.OK}, {3, 4, 1, 2, 3, 4, api.OK}, {1, 2, 3, 4, 3, 4, api.OK}, {0, 4, 1, 2, 0, 0, api.ErrNone},
	} {
		x, multiple, err := Join(nat(c.a), nat(c.m), nat(c.b), nat(c.n))
		if x != nat(c.x) || multiple != nat(c.multiple) || err != c.err {
			t.Errorf("Join of %d, %d, %d, %d: got %x, %x and error %d", c.a, c.m, c.b, c.n, x, multiple, err)
		}
	}
}

// P3.2: ErrForm comes before ErrZero, that before ErrNone, and that before ErrLong.
func TestJoinErrors(t *testing.T) {
	check := func(what string, a, m, b, n api.Nat, wanted api.Errno) {
		t.Helper()
		x, multiple, err := Join(a, m, b, n)
		refused(t, what, x+multiple, err, wanted)
	}
	for _, bad := range invalid() {
		for _, other := range []api.Nat{"", "\x02", ones(128)} {
			check("a", bad, other, "\x01", other, api.ErrForm)
			check("m", other, bad, other, other, api.ErrForm)
			check("b", other, other, bad, other, api.ErrForm)
			check("n", other, other, other, bad, api.ErrForm)
		}
	}
	check("m = 0", "\x01", "", "\x02", "\x04", api.ErrZero)
	check("n = 0", "\x01", "\x04", "\x02", "", api.ErrZero)
	check("both are 0", "", "", "", "", api.ErrZero)
	check("no solution and a long multiple", "", ones(127)+"\xfe", "\x01", long(2, 128), api.ErrNone)
	check("a long multiple", "\x01", long(1, 65), "\x01", ones(65), api.ErrLong)
}

// P3.2: the longest least common multiples that are returned.
func TestJoinWithMultiplesOf128And129Bytes(t *testing.T) {
	root := fromBig(new(big.Int).Lsh(big.NewInt(1), 512))
	below := fromBig(new(big.Int).Sub(toBig(root), big.NewInt(1)))
	above := fromBig(new(big.Int).Add(toBig(root), big.NewInt(1)))
	x, multiple, err := Join(fromBig(new(big.Int).Sub(toBig(below), big.NewInt(1))), below, root, above)
	if x != ones(127)+"\xfe" || multiple != ones(128) || err != api.OK {
		t.Errorf("moduli 2^512 - 1 and 2^512 + 1: got %x, %x and error %d", x, multiple, err)
	}
	x, multiple, err = Join("", root, "\x01", above)
	refused(t, "moduli 2^512 and 2^512 + 1", x+multiple, err, api.ErrLong)
}

// P3.2.
func TestJacobi(t *testing.T) {
	check := func(a, n api.Nat) {
		t.Helper()
		got, err := Jacobi(a, n)
		wanted, wantedErr := 0, api.OK
		switch {
		case n == "":
			wantedErr = api.ErrZero
		case toBig(n).Bit(0) == 0:
			wantedErr = api.ErrArg
		default:
			wanted = big.Jacobi(toBig(a), toBig(n))
		}
		if got != wanted || err != wantedErr {
			t.Fatalf("Jacobi of %x and %x: got %d and error %d, want %d and error %d", a, n, got, err, wanted, wantedErr)
		}
	}
	for a := range uint64(100) {
		for n := range uint64(100) {
			check(nat(a), nat(n))
		}
	}
	for _, a := range edges() {
		for _, n := range edges() {
			check(a, n)
		}
	}
	r := rand.New(rand.NewSource(7))
	for range 2000 {
		check(random(r, 128), random(r, 128))
	}
}

// P3.2: the Legendre symbol by its definition.
func TestJacobiOfPrimes(t *testing.T) {
	for _, p := range []uint64{3, 5, 7, 11, 13, 17, 19, 23} {
		symbols := make([]int, p)
		for i := range symbols {
			symbols[i] = -1
		}
		for a := range p {
			symbols[a*a%p] = 1
		}
		symbols[0] = 0
		for a := range 3 * p {
			if got, err := Jacobi(nat(a), nat(p)); got != symbols[a%p] || err != api.OK {
				t.Errorf("Jacobi of %d and %d: got %d and error %d", a, p, got, err)
			}
		}
	}
}

// P3.2.
func TestJacobiExamplesAndErrors(t *testing.T) {
	for _, c := range []struct {
		a, n   uint64
		wanted int
		err    api.Errno
	}{
		{2, 15, 1, api.OK}, {2, 5, -1, api.OK}, {3, 9, 0, api.OK}, {7, 15, -1, api.OK}, {0, 1, 1, api.OK}, {5, 1, 1, api.OK}, {0, 9, 0, api.OK},
		{3, 8, 0, api.ErrArg}, {3, 2, 0, api.ErrArg}, {3, 0, 0, api.ErrZero}, {0, 0, 0, api.ErrZero},
	} {
		if got, err := Jacobi(nat(c.a), nat(c.n)); got != c.wanted || err != c.err {
			t.Errorf("Jacobi of %d and %d: got %d and error %d", c.a, c.n, got, err)
		}
	}
	for _, bad := range invalid() {
		for _, other := range []api.Nat{"", "\x02", "\x03", ones(128)} {
			if got, err := Jacobi(bad, other); got != 0 || err != api.ErrForm {
				t.Errorf("Jacobi of %x and %x: got %d and error %d, want ErrForm", bad, other, got, err)
			}
			if got, err := Jacobi(other, bad); got != 0 || err != api.ErrForm {
				t.Errorf("Jacobi of %x and %x: got %d and error %d, want ErrForm", other, bad, got, err)
			}
		}
	}
}

// P3.3.
func TestJacobiIsMultiplicative(t *testing.T) {
	r := rand.New(rand.NewSource(8))
	symbol := func(a, n *big.Int) int {
		t.Helper()
		s, err := Jacobi(fromBig(a), fromBig(n))
		if err != api.OK {
			t.Fatalf("error %d for %x and %x", err, a, n)
		}
		return s
	}
	for range 1000 {
		a, b := toBig(random(r, 64)), toBig(random(r, 64))
		m, n := toBig(random(r, 64)), toBig(random(r, 64))
		m.SetBit(m, 0, 1)
		n.SetBit(n, 0, 1)
		if symbol(new(big.Int).Mul(a, b), n) != symbol(a, n)*symbol(b, n) {
			t.Fatalf("not multiplicative in the first argument: %x, %x and %x", a, b, n)
		}
		if symbol(a, new(big.Int).Mul(m, n)) != symbol(a, m)*symbol(a, n) {
			t.Fatalf("not multiplicative in the second argument: %x, %x and %x", a, m, n)
		}
		wanted := 0
		if new(big.Int).GCD(nil, nil, a, n).Cmp(big.NewInt(1)) == 0 {
			wanted = 1
		}
		if symbol(new(big.Int).Mul(a, a), n) != wanted {
			t.Fatalf("wrong symbol for the square of %x and %x", a, n)
		}
	}
}
