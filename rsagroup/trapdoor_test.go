package rsagroup

import (
	"math/big"
	"math/rand"
	"slices"
	"testing"

	"domino/api"
)

// beyond is the least safe prime of more than 8 bytes.
const beyond = api.Nat("\x01\x00\x00\x00\x00\x00\x00\x0c\x1f")

// P10.1: all small numbers.
func TestCheckAndOrderSmall(t *testing.T) {
	for p := range uint64(50) {
		for q := range uint64(50) {
			d := trapdoor(p, q)
			wanted, order := api.OK, nat((p-1)/2*((q-1)/2))
			if !isSafe(p) || !isSafe(q) || p == q {
				wanted, order = api.ErrPrime, ""
			}
			if got, err := Order(d); got != order || err != wanted {
				t.Fatalf("Order of %d, %d: got %x and error %d, want %x and error %d", p, q, got, err, order, wanted)
			}
			n := p * q
			if n%2 == 0 || n <= 8 {
				wanted = api.ErrGroup
			}
			if got := Check(unknown(n), d); got != wanted {
				t.Fatalf("Check of %d = %d * %d: got error %d, want %d", n, p, q, got, wanted)
			}
			for _, other := range []uint64{n + 1, n + 2, n + 9, 77} {
				wanted := api.ErrArg
				switch {
				case other%2 == 0 || other <= 8:
					wanted = api.ErrGroup
				case other == n:
					continue
				}
				if got := Check(unknown(other), d); got != wanted {
					t.Fatalf("Check of %d and %d, %d: got error %d, want %d", other, p, q, got, wanted)
				}
			}
		}
	}
}

// P10.1.
func TestCheckAndOrderLarge(t *testing.T) {
	for _, d := range large() {
		if got := Check(groupOf(d), d); got != api.OK {
			t.Errorf("Check of %x: got error %d", d, got)
		}
		half := func(n api.Nat) *big.Int { return new(big.Int).Rsh(toBig(n), 1) }
		if got, err := Order(d); got != fromBig(half(d.P).Mul(half(d.P), half(d.Q))) || err != api.OK {
			t.Errorf("Order of %x: got %x and error %d", d, got, err)
		}
	}
	if got, err := Order(trapdoor(7, 11)); got != nat(15) || err != api.OK {
		t.Errorf("Order of 7, 11: got %x and error %d", got, err)
	}
}

// P10.1: also the order of the errors.
func TestCheckErrors(t *testing.T) {
	d := trapdoor(7, 11)
	for _, c := range []struct {
		what   string
		g      api.Group
		d      api.Trapdoor
		wanted api.Errno
	}{
		{"a group of prime order", api.Group{Modulus: nat(77), Order: nat(5)}, d, api.ErrGroup},
		{"a group of prime order with a wrong trapdoor", api.Group{Modulus: nat(77), Order: nat(1)}, trapdoor(4, 4), api.ErrGroup},
		{"an even modulus", unknown(78), d, api.ErrGroup},
		{"an even modulus and its factors", unknown(22), trapdoor(2, 11), api.ErrGroup},
		{"modulus 7", unknown(7), trapdoor(7, 1), api.ErrGroup},
		{"no group", api.Group{}, api.Trapdoor{}, api.ErrGroup},
		{"no group and long primes", api.Group{}, api.Trapdoor{P: beyond, Q: ones(128)}, api.ErrGroup},
		{"modulus 9", unknown(9), trapdoor(3, 3), api.ErrPrime},
		{"modulus 9 and 1", unknown(9), trapdoor(9, 1), api.ErrPrime},
		{"another modulus", unknown(79), d, api.ErrArg},
		{"another modulus and no primes", unknown(77), trapdoor(9, 9), api.ErrArg},
		{"another modulus and a long prime", unknown(77), api.Trapdoor{P: beyond, Q: nat(7)}, api.ErrArg},
		{"no trapdoor", unknown(77), api.Trapdoor{}, api.ErrArg},
		{"a product that is too long", api.Group{Modulus: ones(128)}, api.Trapdoor{P: ones(128), Q: ones(128)}, api.ErrArg},
		{"a product that is too long for a small modulus", unknown(77), api.Trapdoor{P: ones(128), Q: nat(3)}, api.ErrArg},
		{"1 and a long modulus", api.Group{Modulus: ones(128)}, api.Trapdoor{P: nat(1), Q: ones(128)}, api.ErrLong},
		{"a long first prime", groupOf(api.Trapdoor{P: beyond, Q: nat(7)}), api.Trapdoor{P: beyond, Q: nat(7)}, api.ErrLong},
		{"a long second prime", groupOf(api.Trapdoor{P: beyond, Q: nat(7)}), api.Trapdoor{P: nat(7), Q: beyond}, api.ErrLong},
		{"a long second prime behind an unsafe one", groupOf(api.Trapdoor{P: beyond, Q: nat(13)}), api.Trapdoor{P: nat(13), Q: beyond}, api.ErrLong},
		{"a long prime twice", groupOf(api.Trapdoor{P: beyond, Q: beyond}), api.Trapdoor{P: beyond, Q: beyond}, api.ErrLong},
		{"a safe prime twice", unknown(49), trapdoor(7, 7), api.ErrPrime},
		{"an unsafe second prime", unknown(91), trapdoor(7, 13), api.ErrPrime},
		{"an unsafe first prime", unknown(91), trapdoor(13, 7), api.ErrPrime},
		{"3, which is not safe", unknown(21), trapdoor(3, 7), api.ErrPrime},
		{"1 and the modulus", unknown(77), trapdoor(1, 77), api.ErrPrime},
		{"composite numbers", unknown(9 * 25), trapdoor(9, 25), api.ErrPrime},
		{"a composite number with a prime half", unknown(15 * 7), trapdoor(15, 7), api.ErrPrime},
		{"the example", unknown(77), d, api.OK},
		{"the primes in the other order", unknown(77), trapdoor(11, 7), api.OK},
		{"5, the least safe prime", unknown(35), trapdoor(5, 7), api.OK},
	} {
		if got := Check(c.g, c.d); got != c.wanted {
			t.Errorf("%s: got error %d, want %d", c.what, got, c.wanted)
		}
	}
	for _, bad := range invalid() {
		for _, other := range []api.Nat{"", nat(7), nat(8), nat(77), ones(128), bad} {
			for i, c := range []struct {
				g api.Group
				d api.Trapdoor
			}{
				{api.Group{Modulus: bad, Order: other}, d}, {api.Group{Modulus: other, Order: bad}, d},
				{api.Group{Modulus: other}, api.Trapdoor{P: bad, Q: other}}, {api.Group{Modulus: other}, api.Trapdoor{P: other, Q: bad}},
			} {
				if got := Check(c.g, c.d); got != api.ErrForm {
					t.Errorf("number %d: got error %d, want ErrForm", i, got)
				}
			}
		}
	}
}

// P10.1.
func TestOrderErrors(t *testing.T) {
	refuse := func(what string, p, q api.Nat, wanted api.Errno) {
		t.Helper()
		got, err := Order(api.Trapdoor{P: p, Q: q})
		refused(t, what, got, err, wanted)
	}
	for _, bad := range invalid() {
		for _, other := range []api.Nat{"", nat(7), nat(8), beyond, ones(128), bad} {
			refuse("first number", bad, other, api.ErrForm)
			refuse("second number", other, bad, api.ErrForm)
		}
	}
	for _, long := range []api.Nat{"\x01\x00\x00\x00\x00\x00\x00\x00\x00", beyond, ones(128)} {
		for _, other := range []api.Nat{"", nat(4), nat(7), nat(13), long} {
			refuse("a long first prime", long, other, api.ErrLong)
			refuse("a long second prime", other, long, api.ErrLong)
		}
	}
	for _, n := range []uint64{0, 1, 2, 3, 4, 9, 13, 15, 17, 19, 1<<64 - 59, 1<<64 - 1} {
		refuse("an unsafe first prime", nat(n), nat(7), api.ErrPrime)
		refuse("an unsafe second prime", nat(7), nat(n), api.ErrPrime)
	}
	for _, d := range append(small(), large()...) {
		refuse("equal primes", d.P, d.P, api.ErrPrime)
	}
}

// P10.2: all elements of small groups.
func TestSquaresAndGeneratorsSmall(t *testing.T) {
	for _, d := range small() {
		g := groupOf(d)
		n := modulusOf(g)
		list := squares(n)
		for _, x := range units(n) {
			wanted := slices.Contains(list, x)
			if got, err := IsSquare(g, d, nat(x)); got != wanted || err != api.OK {
				t.Fatalf("IsSquare of %d modulo %d: got %v and error %d", x, n, got, err)
			}
			wanted = wanted && len(powers(x, n)) == len(list)
			if got, err := IsGenerator(g, d, nat(x)); got != wanted || err != api.OK {
				t.Fatalf("IsGenerator of %d modulo %d: got %v and error %d", x, n, got, err)
			}
		}
	}
}

// P10.2.
func TestSquaresAndGeneratorsLarge(t *testing.T) {
	r := rand.New(rand.NewSource(1))
	for _, d := range large() {
		g := groupOf(d)
		p, q := toBig(d.P), toBig(d.Q)
		for i := range 60 {
			x := randomUnit(r, g)
			if i%2 == 0 {
				x = squared(g, x)
			}
			wanted := big.Jacobi(toBig(x), p) == 1 && big.Jacobi(toBig(x), q) == 1
			if got, err := IsSquare(g, d, x); got != wanted || err != api.OK {
				t.Fatalf("IsSquare of %x modulo %x: got %v and error %d", x, g.Modulus, got, err)
			}
			one := big.NewInt(1)
			wanted = wanted && new(big.Int).Mod(toBig(x), p).Cmp(one) != 0 && new(big.Int).Mod(toBig(x), q).Cmp(one) != 0
			if got, err := IsGenerator(g, d, x); got != wanted || err != api.OK {
				t.Fatalf("IsGenerator of %x modulo %x: got %v and error %d", x, g.Modulus, got, err)
			}
		}
		for _, m := range []*big.Int{p, q} { // the squares of the numbers that are 2 modulo one prime, and 1 modulo the other one
			other := new(big.Int).Div(toBig(g.Modulus), m)
			x := new(big.Int).Mul(other, new(big.Int).ModInverse(other, m))
			x.Add(x, big.NewInt(1))
			square := squared(g, fromBig(x))
			is, err := IsSquare(g, d, square)
			generates, _ := IsGenerator(g, d, square)
			if !is || generates || err != api.OK {
				t.Errorf("%x modulo %x: a square: %v, a generator: %v, error %d", square, g.Modulus, is, generates, err)
			}
		}
	}
}

// P10.2.
func TestTrapdoorExamples(t *testing.T) {
	g, d := unknown(77), trapdoor(7, 11)
	for x, wanted := range map[uint64][2]bool{4: {true, true}, 36: {true, false}, 2: {false, false}, 1: {true, false}} {
		square, _ := IsSquare(g, d, nat(x))
		generator, _ := IsGenerator(g, d, nat(x))
		if square != wanted[0] || generator != wanted[1] {
			t.Errorf("%d: got %v and %v", x, square, generator)
		}
	}
	if y, err := Root(g, d, nat(4), nat(7)); y != nat(53) || err != api.OK {
		t.Errorf("Root of 4 for 7: got %x and error %d", y, err)
	}
	y, err := Root(g, d, nat(4), nat(3))
	refused(t, "Root of 4 for 3", y, err, api.ErrNone)
}

// P10.2 and P10.4: the only square with that power, for all exponents.
func TestRootSmall(t *testing.T) {
	for _, d := range small()[:6] {
		g := groupOf(d)
		list := squares(modulusOf(g))
		order := int64(len(list))
		for _, x := range list {
			for e := range uint64(2*order + 3) {
				y, err := Root(g, d, nat(x), nat(e))
				if new(big.Int).GCD(nil, nil, big.NewInt(order), new(big.Int).SetUint64(e)).Cmp(big.NewInt(1)) != 0 {
					refused(t, "Root without a common divisor 1", y, err, api.ErrNone)
					continue
				}
				var roots []api.Nat
				for _, z := range list {
					if raised(g, nat(z), nat(e)) == nat(x) {
						roots = append(roots, nat(z))
					}
				}
				if len(roots) != 1 || y != roots[0] || err != api.OK {
					t.Fatalf("Root of %d for %d modulo %x: got %x and error %d, want one of %x", x, e, g.Modulus, y, err, roots)
				}
			}
		}
		for _, x := range units(modulusOf(g)) {
			if !slices.Contains(list, x) {
				for _, e := range nats(0, 1, 2, 7) {
					y, err := Root(g, d, nat(x), e)
					refused(t, "Root of no square", y, err, api.ErrArg)
				}
			}
		}
	}
}

// P10.2.
func TestRootLarge(t *testing.T) {
	r := rand.New(rand.NewSource(2))
	for _, d := range large() {
		g := groupOf(d)
		order, _ := Order(d)
		for _, e := range []api.Nat{nat(1), nat(2), nat(3), nat(65537), fromBig(new(big.Int).Sub(toBig(order), big.NewInt(1))), fromBig(new(big.Int).Add(toBig(order), big.NewInt(1))), ones(128), ones(127) + "\xfd"} {
			x := squared(g, randomUnit(r, g))
			y, err := Root(g, d, x, e)
			if new(big.Int).GCD(nil, nil, toBig(order), toBig(e)).Cmp(big.NewInt(1)) != 0 {
				refused(t, "Root without a common divisor 1", y, err, api.ErrNone)
				continue
			}
			square, _ := IsSquare(g, d, y)
			if raised(g, y, e) != x || !square || err != api.OK {
				t.Errorf("Root of %x for %x modulo %x: got %x and error %d", x, e, g.Modulus, y, err)
			}
		}
		for _, e := range []api.Nat{"", order, fromBig(new(big.Int).Rsh(toBig(d.P), 1)), fromBig(new(big.Int).Rsh(toBig(d.Q), 1))} {
			y, err := Root(g, d, squared(g, randomUnit(r, g)), e)
			refused(t, "Root for a divisor of the order", y, err, api.ErrNone)
		}
	}
}

// refusedAll checks that IsSquare, IsGenerator and Root return an error.
func refusedAll(t *testing.T, what string, g api.Group, d api.Trapdoor, x api.Nat, wanted api.Errno) {
	t.Helper()
	is, err := IsSquare(g, d, x)
	refused(t, "IsSquare of "+what, is, err, wanted)
	is, err = IsGenerator(g, d, x)
	refused(t, "IsGenerator of "+what, is, err, wanted)
	for _, e := range []api.Nat{"", nat(3), nat(7), ones(128)} {
		y, err := Root(g, d, x, e)
		refused(t, "Root of "+what, y, err, wanted)
	}
}

// P10.2: the order of the errors.
func TestErrorsOfElements(t *testing.T) {
	g, d := unknown(77), trapdoor(7, 11)
	failing := []struct {
		g   api.Group
		d   api.Trapdoor
		err api.Errno
	}{
		{api.Group{Modulus: "\x00\x4d"}, d, api.ErrForm}, {g, api.Trapdoor{P: "\x00\x07", Q: nat(11)}, api.ErrForm}, {api.Group{}, d, api.ErrGroup}, {unknown(78), d, api.ErrGroup},
		{api.Group{Modulus: nat(77), Order: nat(5)}, d, api.ErrGroup}, {unknown(79), d, api.ErrArg}, {g, api.Trapdoor{}, api.ErrArg},
		{groupOf(api.Trapdoor{P: beyond, Q: nat(7)}), api.Trapdoor{P: beyond, Q: nat(7)}, api.ErrLong}, {unknown(49), trapdoor(7, 7), api.ErrPrime}, {unknown(91), trapdoor(7, 13), api.ErrPrime},
	}
	for _, c := range failing {
		for _, x := range []api.Nat{"", nat(1), nat(2), nat(4), nat(7), ones(128)} {
			refusedAll(t, "a wrong trapdoor", c.g, c.d, x, c.err)
		}
		for _, bad := range invalid() {
			refusedAll(t, "a number that is not canonical", c.g, c.d, bad, api.ErrForm)
			y, err := Root(c.g, c.d, nat(4), bad)
			refused(t, "Root for a number that is not canonical", y, err, api.ErrForm)
		}
	}
	for _, bad := range invalid() {
		refusedAll(t, "a number that is not canonical", g, d, bad, api.ErrForm)
		for _, x := range []api.Nat{"", nat(2), nat(4), nat(7), ones(128), bad} {
			y, err := Root(g, d, x, bad)
			refused(t, "Root for a number that is not canonical", y, err, api.ErrForm)
		}
	}
	for _, x := range []api.Nat{"", nat(7), nat(11), nat(14), nat(70), nat(77), nat(78), nat(81), ones(128)} {
		refusedAll(t, "no element", g, d, x, api.ErrGroup)
	}
}

// P10.4: products of squares are squares, there are as many as Order says, and each one is the square of four elements.
func TestSquaresAreAGroup(t *testing.T) {
	for _, d := range small() {
		g := groupOf(d)
		n := modulusOf(g)
		var list []uint64
		roots := map[uint64]int{}
		for _, x := range units(n) {
			if is, _ := IsSquare(g, d, nat(x)); is {
				list = append(list, x)
			}
			roots[x*x%n]++
		}
		if order, _ := Order(d); nat(uint64(len(list))) != order || len(roots) != len(list) {
			t.Errorf("modulo %d: %d squares, of which %d have roots; Order says %x", n, len(list), len(roots), order)
		}
		for _, x := range list {
			if roots[x] != 4 {
				t.Errorf("modulo %d: %d is the square of %d elements", n, x, roots[x])
			}
			for _, y := range list {
				if is, _ := IsSquare(g, d, nat(x*y%n)); !is {
					t.Fatalf("modulo %d: %d * %d is no square", n, x, y)
				}
			}
		}
	}
}

// P10.4: every square is a power of every generator with one exponent below the order.
func TestGeneratorsGenerate(t *testing.T) {
	for _, d := range small()[:6] {
		g := groupOf(d)
		n := modulusOf(g)
		list := squares(n)
		for _, base := range list {
			exponents := map[api.Nat]int{}
			for e := range len(list) {
				exponents[raised(g, nat(base), nat(uint64(e)))]++
			}
			is, _ := IsGenerator(g, d, nat(base))
			if is != (len(exponents) == len(list)) {
				t.Errorf("modulo %d: %d has %d powers, but IsGenerator is %v", n, base, len(exponents), is)
			}
			for _, x := range list {
				k, ok := Log(g, nat(base), nat(x), len(list)-1)
				if is && (!ok || raised(g, nat(base), nat(uint64(k))) != nat(x) || exponents[nat(x)] != 1) {
					t.Errorf("modulo %d: the logarithm of %d to the base %d is %d, %v", n, x, base, k, ok)
				}
			}
		}
	}
}
