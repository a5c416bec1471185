package certificate

import (
	"fmt"
	"math"
	"math/rand"
	"testing"

	"domino/api"
)

// P7.1.
func TestCheckExamples(t *testing.T) {
	for _, x := range []struct {
		what   string
		c      api.Certificate
		wanted api.Errno
	}{
		{"2", steps(step(2, 0)), api.OK},
		{"the greatest prime without factors", steps(step(65521, 0)), api.OK},
		{"1000003", steps(step(2, 0), step(3, 0), step(167, 0), step(499, 0), step(166667, 2, 0, 2, 3), step(1000003, 2, 0, 1, 4)), api.OK},
		{"a small prime with factors", steps(step(2, 0), step(3, 2, 0), step(7, 3, 1)), api.OK},
		{"two steps with one prime", steps(step(2, 0), step(2, 0), step(5, 2, 0, 1), step(5, 0), step(5, 3, 1)), api.OK},
		{"a step that is not used", steps(step(13, 0), step(2, 0), step(17, 3, 1)), api.OK},
		{"one factor of 65537", steps(step(2, 0), step(65537, 3, 0)), api.OK},

		{"4", steps(step(4, 0)), api.ErrPrime},
		{"65535", steps(step(65535, 0)), api.ErrPrime},
		{"65536", steps(step(65536, 0)), api.ErrPrime},
		{"65537 without factors", steps(step(65537, 0)), api.ErrPrime},
		{"a prime of more than 64 bits without factors", steps(api.Step{Prime: mersenne(89)}), api.ErrPrime},
		{"a composite number that is not used", steps(step(9, 0), step(2, 0), step(17, 3, 1)), api.ErrPrime},
		{"a composite number at the end", steps(step(2, 0), step(17, 3, 0), step(15, 0)), api.ErrPrime},
		{"a composite factor", steps(step(4, 0), step(5, 2, 0)), api.ErrPrime},
		{"a factor that does not divide", steps(step(2, 0), step(7, 0), step(17, 3, 0, 1)), api.ErrPrime},
		{"a factor greater than the prime", steps(step(65521, 0), step(5, 2, 0)), api.ErrPrime},
		{"the prime itself as factor", steps(step(5, 0), step(5, 2, 0)), api.ErrPrime},
		{"a square root as base", steps(step(2, 0), step(17, 2, 0)), api.ErrPrime},
		{"91, to the base 3", steps(step(2, 0), step(3, 0), step(5, 0), step(91, 3, 0, 1, 2)), api.ErrPrime},
		// Their divisors are neither 1 nor the number itself for all factors but 2 of 2871.
		{"561", steps(step(2, 0), step(5, 0), step(561, 5, 0, 1)), api.ErrPrime},
		{"645", steps(step(2, 0), step(7, 0), step(645, 2, 0, 1)), api.ErrPrime},
		{"2821", steps(step(2, 0), step(3, 0), step(5, 0), step(2821, 2, 0, 1, 2)), api.ErrPrime},
		{"2871", steps(step(2, 0), step(5, 0), step(7, 0), step(2871, 35, 0, 1, 2)), api.ErrPrime},
		{"a base that has a common divisor with 9", steps(step(2, 0), step(9, 3, 0)), api.ErrPrime},
		{"an even number", steps(step(5, 0), step(16, 3, 0)), api.ErrPrime},
	} {
		checked(t, x.what, x.c, x.wanted)
	}
}

// P7.1: the square of the part of p - 1 with the factors must be greater than p.
func TestCheckPart(t *testing.T) {
	small := []api.Step{step(2, 0), step(3, 0), step(5, 0), step(7, 0)}
	for _, x := range []struct {
		p, base uint64
		factors []int
		wanted  api.Errno
	}{
		{7, 3, []int{0}, api.ErrPrime},     // 2 * 2 <= 7
		{7, 3, []int{1}, api.OK},           // 3 * 3 > 7
		{13, 2, []int{1}, api.ErrPrime},    // 3 * 3 <= 13
		{13, 2, []int{0}, api.OK},          // 4 * 4 > 13: the part contains 2 twice
		{31, 3, []int{2}, api.ErrPrime},    // 5 * 5 <= 31
		{31, 3, []int{0, 1}, api.OK},       // 6 * 6 > 31
		{43, 3, []int{0, 1}, api.ErrPrime}, // 6 * 6 <= 43
		{43, 2, []int{3}, api.OK},          // 7 * 7 > 43
		{73, 5, []int{0}, api.ErrPrime},    // 8 * 8 <= 73
		{73, 5, []int{1}, api.OK},          // 9 * 9 > 73
	} {
		c := steps(append(copied(steps(small...)).Steps, step(x.p, x.base, x.factors...))...)
		checked(t, fmt.Sprint(x), c, x.wanted)
	}
}

// P7.1: all steps for small numbers behind those of the first primes.
func TestCheckSmall(t *testing.T) {
	first := []api.Step{step(2, 0), step(3, 0), step(5, 0), step(7, 0), step(11, 0)}
	correct := 0
	for p := range uint64(75) {
		for base := range p + 2 {
			for set := range 1 << len(first) {
				last := step(p, base)
				for i := range first {
					if set>>i&1 == 1 {
						last.Factors = append(last.Factors, i)
					}
				}
				c := steps(append(first[:len(first):len(first)], last)...)
				wanted := verdict(c)
				if got := Check(c); got != wanted {
					t.Fatalf("%v: got error %d, want %d", last, got, wanted)
				}
				if wanted == api.OK {
					correct++
				}
			}
		}
	}
	if correct < 500 {
		t.Errorf("only %d certificates are correct", correct)
	}
}

// P7.1.
func TestCheckForm(t *testing.T) {
	two := step(2, 0)
	for what, c := range map[string]api.Certificate{
		"no steps":                      {},
		"an empty list":                 steps([]api.Step{}...),
		"the prime 0":                   steps(step(0, 0)),
		"the prime 1":                   steps(step(1, 0)),
		"a base without factors":        steps(step(7, 3)),
		"a base 1 without factors":      steps(step(7, 1)),
		"a long base without factors":   steps(api.Step{Prime: "\x07", Base: ones(128)}),
		"no base":                       steps(two, step(5, 0, 0)),
		"the base 1":                    steps(two, step(5, 1, 0)),
		"the prime as base":             steps(two, step(5, 5, 0)),
		"a base above the prime":        steps(two, step(5, 7, 0)),
		"a long base":                   steps(two, api.Step{Prime: "\x05", Base: ones(128), Factors: []int{0}}),
		"a factor in the first step":    steps(step(3, 2, 0)),
		"the step itself as factor":     steps(two, step(5, 2, 1)),
		"a later step as factor":        steps(two, step(5, 2, 2), step(3, 0)),
		"a factor that does not exist":  steps(two, step(5, 2, 0, 7)),
		"a negative factor":             steps(two, step(5, 2, -1)),
		"a negative factor and 0":       steps(two, step(5, 2, -1, 0)),
		"the least integer":             steps(two, step(5, 2, math.MinInt)),
		"the greatest integer":          steps(two, step(5, 2, math.MaxInt)),
		"a factor twice":                steps(two, step(3, 0), step(7, 3, 0, 0, 1)),
		"factors in descending order":   steps(two, step(3, 0), step(7, 3, 1, 0)),
		"a bad step behind a good one":  steps(two, step(5, 2, 0), step(1, 0)),
		"a bad step behind a wrong one": steps(two, step(9, 0), step(5, 2, 0), step(5, 1, 0)),
	} {
		checked(t, what, c, api.ErrForm)
	}
	for _, bad := range invalid() {
		checked(t, "a prime that is not canonical", steps(two, api.Step{Prime: bad}), api.ErrForm)
		checked(t, "a prime with factors that is not canonical", steps(two, api.Step{Prime: bad, Base: "\x02", Factors: []int{0}}), api.ErrForm)
		checked(t, "a base that is not canonical", steps(two, api.Step{Prime: ones(128), Base: bad, Factors: []int{0}}), api.ErrForm)
		checked(t, "a base without factors that is not canonical", steps(api.Step{Prime: "\x07", Base: bad}), api.ErrForm)
	}
}

// P7.1: the order of the errors.
func TestCheckMany(t *testing.T) {
	checked(t, "256 steps", repeated(256, step(2, 0)), api.OK)
	checked(t, "257 steps", repeated(257, step(2, 0)), api.ErrMany)
	checked(t, "100000 steps", repeated(100000, step(2, 0)), api.ErrMany)
	checked(t, "256 composite steps", repeated(256, step(4, 0)), api.ErrPrime)
	checked(t, "257 composite steps", repeated(257, step(4, 0)), api.ErrMany)
	malformed := repeated(257, step(2, 0))
	malformed.Steps[256] = step(1, 0)
	checked(t, "a malformed step behind 256", malformed, api.ErrForm)
	malformed.Steps[256] = step(2, 0)
	malformed.Steps[0] = step(3, 2, 0)
	checked(t, "a malformed step before 256", malformed, api.ErrForm)
	last := repeated(256, step(2, 0))
	last.Steps[255] = step(5, 2, 0, 100, 254)
	checked(t, "factors far back", last, api.OK)
}

// P7.1: changed certificates of long primes.
func TestCheckChanged(t *testing.T) {
	r := rand.New(rand.NewSource(1))
	counts := map[api.Errno]int{}
	for _, n := range append(longPrimes(), randomPrimes(r, 30)...) {
		c, err := Find(n)
		if err != api.OK {
			continue
		}
		for range 8 {
			other := changed(r, c)
			wanted := verdict(other)
			counts[wanted]++
			checked(t, fmt.Sprintf("%x", other), other, wanted)
		}
	}
	if counts[api.OK] < 20 || counts[api.ErrForm] < 20 || counts[api.ErrPrime] < 20 {
		t.Errorf("the errors and how often they occurred: %v", counts)
	}
}

// changed returns a certificate with one step changed.
func changed(r *rand.Rand, c api.Certificate) api.Certificate {
	c = copied(c)
	s := &c.Steps[len(c.Steps)-1-r.Intn(len(c.Steps))*r.Intn(2)]
	switch r.Intn(8) {
	case 0:
		s.Base = nat(uint64(r.Intn(12)))
	case 1, 2:
		s.Base = nat(uint64(2 + r.Intn(60)))
	case 3:
		s.Prime = nat(r.Uint64() >> r.Intn(64))
	case 4:
		s.Factors = append(s.Factors, r.Intn(len(c.Steps)))
	case 5:
		if len(s.Factors) > 1 {
			i := r.Intn(len(s.Factors))
			s.Factors = append(s.Factors[:i], s.Factors[i+1:]...)
		}
	case 6:
		if len(s.Factors) > 0 {
			s.Factors[r.Intn(len(s.Factors))] += r.Intn(5) - 2
		}
	case 7:
		c.Steps = append([]api.Step{step(2, 0)}, c.Steps...) // shifts all indices
	}
	return c
}

// P7.2.
func TestPrime(t *testing.T) {
	for _, p := range append(invalid(), "", "\x02", "\x0f", ones(128)) {
		c := steps(step(2, 0), api.Step{Prime: p, Base: "\x05", Factors: []int{9}})
		if got := Prime(c); got != p {
			t.Errorf("got %x, want %x", got, p)
		}
	}
	if got := Prime(steps(step(2, 0), step(5, 2, 0), step(3, 0))); got != "\x03" {
		t.Errorf("three steps: got %x", got)
	}
	if got := Prime(api.Certificate{}); got != "" {
		t.Errorf("no steps: got %x", got)
	}
}
