package certificate

import (
	"math/big"
	"math/rand"
	"slices"
	"testing"

	"domino/api"
)

// longPrimes returns primes that have certificates.
func longPrimes() []api.Nat {
	return []api.Nat{proth(3, 189), proth(3, 534), proth(13, 1000), mersenne(61), mersenne(89), chain(big.NewInt(65537), 100), chain(big.NewInt(65537), 250)}
}

// randomPrimes returns primes of 17 bits and more.
func randomPrimes(r *rand.Rand, count int) []api.Nat {
	var list []api.Nat
	for len(list) < count {
		n := new(big.Int).Rand(r, new(big.Int).Lsh(big.NewInt(1), uint(17+r.Intn(60))))
		if n.SetBit(n, 0, 1).Cmp(big.NewInt(65536)) > 0 && n.ProbablyPrime(0) {
			list = append(list, fromBig(n))
		}
	}
	return list
}

// chain returns a prime of that many bits or some less, made from p by multiplying with an even number and adding 1 again and again.
func chain(p *big.Int, bits int) api.Nat {
	for {
		next := (*big.Int)(nil)
		for k := int64(2); next == nil; k += 2 {
			n := new(big.Int).Mul(p, big.NewInt(k))
			if n.Add(n, big.NewInt(1)).ProbablyPrime(0) {
				next = n
			}
		}
		if next.BitLen() > bits {
			return fromBig(p)
		}
		p = next
	}
}

// claim is a step that names its factors themselves.
type claim struct {
	prime, base *big.Int
	factors     []*big.Int
}

// claims returns the steps of the certificate of n by the definition; false if there is none.
func claims(n *big.Int) ([]claim, bool) {
	one, limit := big.NewInt(1), big.NewInt(65536)
	if n.Cmp(limit) < 0 {
		return []claim{{prime: n, base: new(big.Int)}}, true
	}
	last := new(big.Int).Sub(n, one)
	rest, part := new(big.Int).Set(last), big.NewInt(1)
	var factors []*big.Int
	for d := int64(2); d < 65536; d++ {
		f := big.NewInt(d)
		if new(big.Int).Mod(rest, f).Sign() != 0 {
			continue
		}
		factors = append(factors, f)
		for new(big.Int).Mod(rest, f).Sign() == 0 {
			rest.Div(rest, f)
			part.Mul(part, f)
		}
	}
	if rest.ProbablyPrime(10) {
		factors = append(factors, rest)
		part = last
	}
	if new(big.Int).Mul(part, part).Cmp(n) <= 0 {
		return nil, false
	}
	var list []claim
	for _, f := range factors {
		more, ok := claims(f)
		if !ok {
			return nil, false
		}
		list = append(list, more...)
	}
	for base := int64(2); ; base++ {
		if splits(n, big.NewInt(base), factors) {
			return append(list, claim{n, big.NewInt(base), factors}), true
		}
	}
}

// splits reports whether a base is not a power with one of the factors as exponent modulo the prime n.
func splits(n, base *big.Int, factors []*big.Int) bool {
	last := new(big.Int).Sub(n, big.NewInt(1))
	return !slices.ContainsFunc(factors, func(f *big.Int) bool {
		return new(big.Int).Exp(base, new(big.Int).Div(last, f), n).Cmp(big.NewInt(1)) == 0
	})
}

// expected returns the certificate of n by the definition, and its error, for a prime n.
func expected(n api.Nat) (api.Certificate, api.Errno) {
	list, ok := claims(toBig(n))
	if !ok {
		return api.Certificate{}, api.ErrNone
	}
	var c api.Certificate
	index := func(p *big.Int) int {
		return slices.IndexFunc(c.Steps, func(s api.Step) bool { return s.Prime == fromBig(p) })
	}
	for _, x := range list {
		if index(x.prime) >= 0 {
			continue
		}
		s := api.Step{Prime: fromBig(x.prime), Base: fromBig(x.base)}
		for _, f := range x.factors {
			s.Factors = append(s.Factors, index(f))
		}
		slices.Sort(s.Factors)
		c.Steps = append(c.Steps, s)
	}
	return c, api.OK
}

// found checks the result of Find.
func found(t *testing.T, n api.Nat, c api.Certificate, wanted api.Errno) {
	t.Helper()
	if got, err := Find(n); !same(got, c) || err != wanted {
		t.Fatalf("Find(%v): got %x and error %d, want %x and error %d", toBig(n), got, err, c, wanted)
	}
}

// P7.2.
func TestFindExamples(t *testing.T) {
	found(t, "\x02", steps(step(2, 0)), api.OK)
	found(t, "\x0d", steps(step(13, 0)), api.OK)
	found(t, nat(65521), steps(step(65521, 0)), api.OK)
	found(t, nat(65537), steps(step(2, 0), step(65537, 3, 0)), api.OK)
	found(t, nat(1000003), steps(step(2, 0), step(3, 0), step(167, 0), step(499, 0), step(166667, 2, 0, 2, 3), step(1000003, 2, 0, 1, 4)), api.OK)
	// 667210 = 2 * 5 * 66721, and 66720 = 2^5 * 3 * 5 * 139: the step of 5 comes before that of 3.
	found(t, nat(667211), steps(step(2, 0), step(5, 0), step(3, 0), step(139, 0), step(66721, 13, 0, 1, 2, 3), step(667211, 2, 0, 1, 4)), api.OK)
	// These were calculated with another program.
	found(t, nat(18446744073709551557), steps(step(2, 0), step(11, 0), step(137, 0), step(547, 0), step(3, 0), step(5, 0), step(1427, 0), step(2131, 0), step(15331, 0), step(5594472617641, 13, 0, 4, 5, 6, 7, 8), step(18446744073709551557, 2, 0, 1, 2, 3, 9)), api.OK)
	found(t, proth(3, 189), steps(step(2, 0), step(3, 0), api.Step{Prime: proth(3, 189), Base: "\x0a", Factors: []int{0, 1}}), api.OK)
	found(t, proth(3, 534), steps(step(2, 0), step(3, 0), api.Step{Prime: proth(3, 534), Base: "\x05", Factors: []int{0, 1}}), api.OK)
}

// P7.2: all numbers of at most 16 bits.
func TestFindSmall(t *testing.T) {
	for n := range uint64(65536) {
		if new(big.Int).SetUint64(n).ProbablyPrime(0) {
			found(t, nat(n), steps(step(n, 0)), api.OK)
		} else {
			found(t, nat(n), api.Certificate{}, api.ErrPrime)
		}
	}
}

// P7.2 and P7.3.
func TestFind(t *testing.T) {
	list := append(longPrimes(), randomPrimes(rand.New(rand.NewSource(2)), 60)...)
	for n := uint64(65536); n < 66500; n++ {
		if new(big.Int).SetUint64(n).ProbablyPrime(0) {
			list = append(list, nat(n))
		} else {
			found(t, nat(n), api.Certificate{}, api.ErrPrime)
		}
	}
	for _, n := range list {
		c, err := expected(n)
		found(t, n, c, err)
		if err != api.OK {
			continue
		}
		checked(t, "a certificate that was found", c, api.OK)
		if Prime(c) != n {
			t.Errorf("the certificate of %x is about %x", n, Prime(c))
		}
	}
}

// P7.2 and P7.3: a number of 1024 bits whose certificate has many steps, one with several factors for each of many numbers.
func TestFindManySteps(t *testing.T) {
	n := chain(big.NewInt(65537), 1024)
	c, err := Find(n)
	if err != api.OK || Prime(c) != n || len(c.Steps) < 150 {
		t.Fatalf("got %d steps and error %d", len(c.Steps), err)
	}
	checked(t, "many steps that were found", c, api.OK)
}

// P7.3.
func TestFindConsequences(t *testing.T) {
	for _, n := range append(longPrimes(), randomPrimes(rand.New(rand.NewSource(3)), 40)...) {
		c, err := Find(n)
		for i, s := range c.Steps {
			if !toBig(s.Prime).ProbablyPrime(0) {
				t.Fatalf("step %d of the certificate of %x: %x is not prime", i, n, s.Prime)
			}
			for base := uint64(2); len(s.Factors) > 0 && nat(base) != s.Base; base++ {
				other := copied(c)
				other.Steps[i].Base = nat(base)
				checked(t, "a smaller base", other, api.ErrPrime)
			}
		}
		if err == api.OK && (Check(c) != api.OK || Prime(c) != n) {
			t.Fatalf("the certificate of %x is not correct: %x", n, c)
		}
	}
}

// P7.2.
func TestFindErrors(t *testing.T) {
	for _, bad := range invalid() {
		found(t, bad, api.Certificate{}, api.ErrForm)
	}
	composite := []api.Nat{"", "\x01", nat(65536), nat(65539 * 65539), nat(1000001), ones(8), ones(128), proth(1, 1000), mersenne(67), mersenne(1023), fromBig(new(big.Int).Mul(toBig(mersenne(127)), toBig(mersenne(89))))}
	// These pass the strong test for the first bases, but not for all twelve.
	composite = append(composite, decimal("3825123056546413051"), nat(3215031751), decimal("1195068768795265792518361315725116351898245581"))
	for _, n := range composite {
		found(t, n, api.Certificate{}, api.ErrPrime)
	}
	none := []api.Nat{
		decimal("60133212203"),                      // 2 * 7 * 65537^2 + 1
		mersenne(107), mersenne(127), mersenne(521), // too few factors
		decimal("73787567737827706001"),           // 8589938000 * 65543 * 131059 + 1: the square is a little less
		decimal("73787559371161990873"),           // 8589936936 * 65537 * 131071 + 1
		chain(toBig(decimal("60133212203")), 100), // a factor has no certificate
		chain(toBig(mersenne(127)), 200), chain(toBig(mersenne(521)), 1024),
	}
	for _, n := range none {
		if !toBig(n).ProbablyPrime(0) {
			t.Fatalf("%x is not prime", n)
		}
		found(t, n, api.Certificate{}, api.ErrNone)
	}
	for _, digits := range []string{"73786412563176052907", "73786418868139598701"} { // the square is a little greater
		c, err := expected(decimal(digits))
		if err != api.OK {
			t.Fatalf("error %d", err)
		}
		found(t, decimal(digits), c, api.OK)
	}
}

// P7.3: a composite number that passes all strong tests has no certificate.
func TestFindPseudoprimes(t *testing.T) {
	for _, digits := range []string{
		"318665857834031151167461", "3317044064679887385961981", "6003094289670105800312596501", "564132928021909221014087501701", // too few factors
		"59276361075595573263446330101", // enough factors, but no base is correct
	} {
		n := decimal(digits)
		if !isProbablePrime(n) || toBig(n).ProbablyPrime(20) {
			t.Fatalf("%s is not such a number", digits)
		}
		found(t, n, api.Certificate{}, api.ErrNone)
	}
	// The first number is a strong probable prime to the base 2, and the factor 31 does not decide about that base. For the second one the factor 73 decides about no base that has no common divisor with the number, whose least prime factor has 13 digits.
	for digits, f := range map[string]uint64{"2047": 31, "1296000004358844004886708077826165821249": 73} {
		if base, ok := leastBase(decimal(digits), []api.Nat{nat(f)}); base != "" || ok {
			t.Errorf("%s: got the base %x", digits, base)
		}
	}
}

// A result shares no memory with another one.
func TestFindMemory(t *testing.T) {
	c, _ := Find(nat(1000003))
	d, _ := Find(nat(1000003))
	clear(c.Steps[5].Factors)
	c.Steps[4].Factors = append(c.Steps[4].Factors, 9)
	clear(c.Steps[:4])
	wanted, _ := expected(nat(1000003))
	if !same(d, wanted) {
		t.Errorf("the second result was changed: %x", d)
	}
	if !slices.Equal(c.Steps[5].Factors, []int{0, 0, 0}) {
		t.Errorf("the lists of one result share memory: %x", c)
	}
}
