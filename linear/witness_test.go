package linear

import (
	"math/big"
	"math/rand"
	"slices"
	"testing"

	"domino/api"
	"domino/integer"
)

// referenceImages returns the products of the equations, or an error, by the definition.
func referenceImages(s api.Statement, w []api.Int) ([]api.Nat, api.Errno) {
	for _, x := range w {
		if !canonical(x.Abs) || x.Neg && x.Abs == "" {
			return nil, api.ErrForm
		}
	}
	if err := referenceCheck(s); err != api.OK {
		return nil, err
	}
	if len(w) != len(s.Vars) {
		return nil, api.ErrMany
	}
	var images []api.Nat
	for _, e := range s.Equations {
		for _, t := range e.Terms {
			if new(big.Int).Mul(toSigned(t.Coef), toSigned(w[t.Var])).BitLen() > 1024 {
				return nil, api.ErrLong
			}
		}
		images = append(images, referenceImage(s.Groups[e.Group], e.Terms, w))
	}
	return images, api.OK
}

// referenceHolds decides whether a statement holds, by the definition.
func referenceHolds(s api.Statement, w []api.Int) (bool, api.Errno) {
	images, err := referenceImages(s, w)
	if err != api.OK && err != api.ErrLong {
		return false, err
	}
	for i, v := range s.Vars {
		least, bound := toBig(v.Bound), toBig(v.Bound)
		least.Neg(least).Add(least, big.NewInt(1))
		if v.Bound == "" {
			least, bound = new(big.Int), referenceOrder(s)
		}
		if x := toSigned(w[i]); x.Cmp(least) < 0 || x.Cmp(bound) >= 0 {
			return false, api.OK
		}
	}
	for i, x := range images {
		if x != s.Equations[i].Target {
			return false, api.OK
		}
	}
	return err == api.OK, err
}

// compare compares Holds and Images with their definitions, and returns what they are.
func compare(t *testing.T, s api.Statement, w []api.Int) (bool, api.Errno) {
	t.Helper()
	images, err := Images(s, w)
	if wanted, e := referenceImages(s, w); err != e || !slices.Equal(images, wanted) {
		t.Fatalf("Images of %v in %s: got %x and error %d, want %x and error %d", w, short(s), images, err, wanted, e)
	}
	holds, e := Holds(s, w)
	if wanted, e2 := referenceHolds(s, w); holds != wanted || e != e2 {
		t.Fatalf("Holds of %v in %s: got %v and error %d, want %v and error %d", w, short(s), holds, e, wanted, e2)
	}
	return holds, err
}

// P15.1: the examples of the document.
func TestHoldsExamples(t *testing.T) {
	for bound, wanted := range map[uint64][]int64{0: {3}, 4: {3}, 9: {-8, 3}, 3: nil, 15: {-8, 3, 14}} {
		var got []int64
		for w := int64(-30); w <= 30; w++ {
			if holds, err := Holds(logarithm(bound), ints(w)); holds && err == api.OK {
				got = append(got, w)
			}
		}
		if !slices.Equal(got, wanted) {
			t.Errorf("the statement with the bound %d holds for %v, want %v", bound, got, wanted)
		}
	}
	s := api.Statement{Groups: []api.Group{group(23, 11)}, Vars: variables(0, 0), Equations: []api.Equation{equation(0, 8, term(4, 0, 1), term(9, 1, -1))}}
	if images, err := Images(s, ints(3, 1)); len(images) != 1 || images[0] != nat(2) || err != api.OK {
		t.Errorf("Images: got %x and error %d", images, err)
	}
}

// P15.1: all small integers.
func TestHoldsSmall(t *testing.T) {
	count := 0
	for bound := range uint64(14) {
		for w := int64(-30); w <= 30; w++ {
			compare(t, logarithm(bound), ints(w))
		}
	}
	for a := int64(-4); a <= 14; a++ {
		for b := int64(-7); b <= 7; b++ {
			for c := int64(-11); c <= 11; c++ {
				if holds, _ := compare(t, mixed(), ints(a, b, c)); holds {
					count++
				}
			}
		}
	}
	if holds, err := Holds(mixed(), ints(3, 2, -1)); !holds || err != api.OK || count < 1 {
		t.Errorf("mixed: got %v and error %d", holds, err)
	}
}

// P15.1: statements in groups of all kinds and sizes, for witnesses, integers close to them, and any integers.
func TestHoldsOfRandomStatements(t *testing.T) {
	r := rand.New(rand.NewSource(2))
	for i, groups := range append(smallGroups(), longGroups()...) {
		for range []int{40, 3}[i/len(smallGroups())] {
			s, w := sample(r, groups, []int{8, 500}[r.Intn(2)])
			if holds, err := compare(t, s, w); !holds || err != api.OK {
				t.Errorf("%s holds for %v: got %v and error %d", short(s), w, holds, err)
			}
			for j := range w {
				other := slices.Clone(w)
				other[j], _ = integer.Add(w[j], integer.Of(int64(r.Intn(3)-1)))
				compare(t, s, other)
				other[j] = randomInt(r, 600)
				compare(t, s, other)
				other[j] = fromSigned(new(big.Int).Neg(toSigned(w[j])))
				compare(t, s, other)
			}
			for j := range s.Equations {
				s.Equations[j].Target = random(r, s.Groups[s.Equations[j].Group])
				compare(t, s, w)
			}
		}
	}
}

// P15.1: integers at the ends of their ranges.
func TestEndsOfRanges(t *testing.T) {
	for _, groups := range longGroups() {
		for _, bound := range []api.Nat{"", nat(1), nat(2), nat(256), "\x01" + ones(60), ones(100)} {
			s := api.Statement{Groups: groups, Vars: []api.Variable{{Bound: bound}}}
			if referenceCheck(s) != api.OK {
				continue
			}
			end := toBig(bound)
			if bound == "" {
				end = referenceOrder(s)
			}
			for more := int64(-2); more <= 2; more++ {
				x := new(big.Int).Add(end, big.NewInt(more))
				compare(t, s, []api.Int{fromSigned(x)})
				compare(t, s, []api.Int{fromSigned(x.Neg(x))})
				compare(t, s, ints(more))
			}
		}
	}
}

// P15.1: images in groups with 128 bytes, calculated with another program.
func TestKnownImages(t *testing.T) {
	s := api.Statement{
		Groups: []api.Group{second(), {Modulus: ones(128)}},
		Vars:   []api.Variable{{Bound: nat(1)}, {Bound: nat(1)}},
		Equations: []api.Equation{
			{Group: 0, Target: nat(1), Terms: []api.Term{{Base: nat(4), Var: 0, Coef: fromSigned(long(7, 100, 0))}, {Base: nat(9), Var: 1, Coef: integer.Of(-1)}}},
			{Group: 1, Target: nat(1), Terms: []api.Term{{Base: nat(7), Var: 0, Coef: integer.Of(-3)}, {Base: nat(13), Var: 1, Coef: fromSigned(long(2, 600, 0))}}},
		},
	}
	w := []api.Int{fromSigned(long(3, 200, 0)), integer.Neg(fromSigned(long(5, 150, 0)))}
	wanted := []api.Nat{
		hexadecimal("4bc35221bb8e1c937b4fef48fa2bd6fdfa378b06b9d9d29e81d5da88323293d3603814a611f881b09fa214b25358e141c3ad8b206f828b115031c8f66092391b" +
			"e0cb762592b5d30877c224f49c617e1ff34931d43928e6059a44d41dba1860b548a5e3bd46862a0f689d18ade78c599ac976355722a9a68606dd79248e1951b9"),
		hexadecimal("5594bdd65df218c462613f3b29f2cace4b4f7469dda3d21d15f527586bfad7321bdc5098530ff6415f5c42ba849fb3c56d1f128e83033113f8f55221488b0cca" +
			"bab723dbbe2a7be5a66d5eac884803812dde03961158617d4d2005040bb6e2e87cde406099e2b5ac82c5ef66b6747b26cf20d6c574e3c0572b4cc21114d9157f"),
	}
	if got, err := Images(s, w); err != api.OK || !slices.Equal(got, wanted) {
		t.Errorf("Images: got %x and error %d", got, err)
	}
	s.Vars = []api.Variable{{Bound: ones(60)}, {Bound: ones(60)}}
	s.Equations[0].Target, s.Equations[1].Target = wanted[0], wanted[1]
	if holds, err := Holds(s, w); !holds || err != api.OK {
		t.Errorf("Holds: got %v and error %d", holds, err)
	}
}

// P15.1: without equations, terms or variables.
func TestImagesOfNothing(t *testing.T) {
	for _, s := range []api.Statement{{}, {Groups: []api.Group{group(23, 11), group(77, 0)}}, {Groups: []api.Group{second()}, Equations: []api.Equation{equation(0, 1), equation(0, 4)}}} {
		holds, err := compare(t, s, nil)
		if holds != (len(s.Equations) == 0) || err != api.OK {
			t.Errorf("%s: got %v and error %d", short(s), holds, err)
		}
	}
}

// P15.1: exponents of 128 bytes and longer ones; Holds reports them only for a witness in range.
func TestLongExponents(t *testing.T) {
	half := fromSigned(long(2, 1023, 0))
	for _, g := range []api.Group{group(23, 11), group(77, 0), second(), {Modulus: ones(128)}} {
		s := api.Statement{Groups: []api.Group{g}, Vars: variables(5, 2), Equations: []api.Equation{
			{Target: nat(1), Terms: []api.Term{term(4, 1, 1)}},
			{Target: nat(1), Terms: []api.Term{term(4, 1, 1), {Base: nat(4), Var: 0, Coef: half}}},
		}}
		for _, coef := range []api.Int{half, integer.Neg(half), integer.From(ones(128)), fromSigned(long(2, 1022, 0)), {}} {
			s.Equations[1].Terms[1].Coef = coef
			for a := int64(-6); a <= 6 && len(g.Modulus) == 1; a++ {
				for b := int64(-3); b <= 3; b++ {
					compare(t, s, ints(a, b))
				}
			}
		}
		s.Equations[1].Terms[1].Coef = half
		for _, x := range []struct {
			a, b        int64
			image, hold api.Errno
		}{{1, 1, api.OK, api.OK}, {-1, 1, api.OK, api.OK}, {2, 0, api.ErrLong, api.ErrLong}, {-2, 1, api.ErrLong, api.ErrLong}, {4, 1, api.ErrLong, api.ErrLong}, {5, 1, api.ErrLong, api.OK}, {-4, 2, api.ErrLong, api.OK}} {
			images, err := Images(s, ints(x.a, x.b))
			if err != x.image || err != api.OK && len(images) > 0 {
				t.Errorf("Images of %d, %d: got %x and error %d", x.a, x.b, images, err)
			}
			if holds, err := Holds(s, ints(x.a, x.b)); err != x.hold || holds {
				t.Errorf("Holds of %d, %d: got %v and error %d", x.a, x.b, holds, err)
			}
		}
	}
}

// P15.1: ErrForm, the other errors of Check, then ErrMany.
func TestErrorsOfImages(t *testing.T) {
	check := func(what string, s api.Statement, w []api.Int, wanted api.Errno) {
		t.Helper()
		images, err := Images(s, w)
		holds, e := Holds(s, w)
		if err != wanted || e != wanted || len(images) > 0 || holds {
			t.Errorf("%s: got %x, error %d, %v, error %d, want error %d", what, images, err, holds, e, wanted)
		}
	}
	for _, x := range changes() {
		s := edited(mixed(), x.edit)
		check(x.what, s, ints(3, 2, -1), x.err)
		check(x.what+", no integers", s, nil, x.err)
		for _, bad := range invalidInts() {
			check(x.what+" and an integer that is not valid", s, []api.Int{bad}, api.ErrForm)
			check(x.what+" and a last integer that is not valid", s, append(ints(3, 2), bad), api.ErrForm)
		}
	}
	for _, bad := range invalidInts() {
		check("an integer that is not valid", mixed(), append(ints(3, 2), bad), api.ErrForm)
		check("a fourth integer that is not valid", mixed(), append(ints(3, 2, -1), bad), api.ErrForm)
		check("an integer without variables", api.Statement{}, []api.Int{bad}, api.ErrForm)
	}
	for _, w := range [][]api.Int{nil, ints(3), ints(3, 2), ints(3, 2, -1, 0), ints(99, 99), slices.Repeat(ints(1), 1000)} {
		check("another number of integers", mixed(), w, api.ErrMany)
	}
	long := edited(mixed(), func(s *api.Statement) { s.Equations[1].Terms[1].Coef = integer.From(ones(128)) })
	check("a product that is too long", long, ints(3, 2, -2), api.ErrLong)
	check("too few integers", long, ints(3, 2), api.ErrMany)
}

// P15.1: arguments are not changed.
func TestArgumentsOfImages(t *testing.T) {
	s, w := mixed(), ints(3, 2, -1)
	before := slices.Clone(w)
	images, _ := Images(s, w)
	images[0], images[3] = nat(99), nat(99)
	Holds(s, w)
	if again, _ := Images(s, w); again[0] != nat(4) || again[3] != nat(1) || written(s) != written(mixed()) || !slices.Equal(w, before) {
		t.Errorf("the arguments were changed: %s %v %x", short(s), w, again)
	}
}

// P15.3: Holds is true exactly if the witness is in range and the images are the targets; the images of a sum are the products of the images.
func TestConsequencesOfImages(t *testing.T) {
	r := rand.New(rand.NewSource(3))
	for i, groups := range append(smallGroups(), longGroups()...) {
		for range []int{30, 4}[i/len(smallGroups())] {
			s, w := sample(r, groups, 200)
			a, _ := Images(s, w)
			other, sum := slices.Clone(w), slices.Clone(w)
			for j := range w {
				other[j] = randomInt(r, 200)
				sum[j], _ = integer.Add(w[j], other[j])
			}
			b, err := Images(s, other)
			c, err2 := Images(s, sum)
			if err != api.OK || err2 != api.OK {
				t.Fatalf("%s: errors %d and %d", short(s), err, err2)
			}
			for j, e := range s.Equations {
				product := new(big.Int).Mul(toBig(a[j]), toBig(b[j]))
				if got := toBig(c[j]); a[j] != e.Target || got.Cmp(product.Mod(product, toBig(s.Groups[e.Group].Modulus))) != 0 {
					t.Errorf("%s: got %x, %x and %x", short(s), a[j], b[j], c[j])
				}
			}
		}
	}
}
