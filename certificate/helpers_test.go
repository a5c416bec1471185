package certificate

import (
	"math/big"
	"reflect"
	"slices"
	"strings"
	"testing"

	"domino/api"
	"domino/natural"
)

// nat returns the string of a small number.
func nat(n uint64) api.Nat {
	return natural.Of(n)
}

// toBig returns the number of a string.
func toBig(a api.Nat) *big.Int {
	return new(big.Int).SetBytes([]byte(a))
}

// fromBig returns the canonical string of a number.
func fromBig(n *big.Int) api.Nat {
	return api.Nat(n.Bytes())
}

// decimal returns the string of the number with these digits.
func decimal(digits string) api.Nat {
	n, _ := new(big.Int).SetString(digits, 10)
	return fromBig(n)
}

// proth returns the number k 2^e + 1.
func proth(k int64, e uint) api.Nat {
	n := new(big.Int).Lsh(big.NewInt(k), e)
	return fromBig(n.Add(n, big.NewInt(1)))
}

// mersenne returns the number 2^e - 1.
func mersenne(e uint) api.Nat {
	n := new(big.Int).Lsh(big.NewInt(1), e)
	return fromBig(n.Sub(n, big.NewInt(1)))
}

// ones returns n bytes 255.
func ones(n int) api.Nat {
	return api.Nat(strings.Repeat("\xff", n))
}

// invalid returns strings that are not canonical.
func invalid() []api.Nat {
	return []api.Nat{"\x00", "\x00\x07", "\x00" + ones(128), "\x01" + ones(128), ones(129), ones(1000)}
}

// step returns a step with small numbers.
func step(p, base uint64, factors ...int) api.Step {
	return api.Step{Prime: nat(p), Base: nat(base), Factors: factors}
}

// steps returns a certificate.
func steps(l ...api.Step) api.Certificate {
	return api.Certificate{Steps: l}
}

// repeated returns a certificate with n times the same step.
func repeated(n int, s api.Step) api.Certificate {
	return steps(slices.Repeat([]api.Step{s}, n)...)
}

// same reports whether two certificates are equal, where a list may be nil or empty.
func same(a, b api.Certificate) bool {
	return slices.EqualFunc(a.Steps, b.Steps, func(x, y api.Step) bool {
		return x.Prime == y.Prime && x.Base == y.Base && slices.Equal(x.Factors, y.Factors)
	})
}

// copied returns a copy of a certificate that shares no memory with it.
func copied(c api.Certificate) api.Certificate {
	list := slices.Clone(c.Steps)
	for i := range list {
		list[i].Factors = slices.Clone(list[i].Factors)
	}
	return steps(list...)
}

// checked checks the result of Check, and that it does not change the certificate.
func checked(t *testing.T, what string, c api.Certificate, wanted api.Errno) {
	t.Helper()
	before := copied(c)
	if got := Check(c); got != wanted {
		t.Fatalf("%s: got error %d, want %d", what, got, wanted)
	}
	if !reflect.DeepEqual(c, before) && !same(c, before) {
		t.Fatalf("%s: the certificate was changed", what)
	}
}

// canonical decides by the definition whether a string is canonical.
func canonical(a api.Nat) bool {
	return len(a) <= 128 && !strings.HasPrefix(string(a), "\x00")
}

// verdict returns the error of Check by the definition of a correct certificate.
func verdict(c api.Certificate) api.Errno {
	if len(c.Steps) == 0 {
		return api.ErrForm
	}
	for i, s := range c.Steps {
		p, base := toBig(s.Prime), toBig(s.Base)
		bad := !canonical(s.Prime) || !canonical(s.Base) || p.Cmp(big.NewInt(2)) < 0 || !slices.IsSorted(s.Factors)
		for k, f := range s.Factors {
			bad = bad || f < 0 || f >= i || slices.Index(s.Factors, f) != k
		}
		if len(s.Factors) > 0 {
			bad = bad || base.Cmp(big.NewInt(2)) < 0 || base.Cmp(p) >= 0
		} else {
			bad = bad || s.Base != ""
		}
		if bad {
			return api.ErrForm
		}
	}
	if len(c.Steps) > 256 {
		return api.ErrMany
	}
	for _, s := range c.Steps {
		if !proved(c, s) {
			return api.ErrPrime
		}
	}
	return api.OK
}

// proved decides by the definition whether a step of a well-formed certificate is correct.
func proved(c api.Certificate, s api.Step) bool {
	p, one := toBig(s.Prime), big.NewInt(1)
	if len(s.Factors) == 0 {
		return p.Cmp(big.NewInt(65536)) < 0 && p.ProbablyPrime(0)
	}
	last := new(big.Int).Sub(p, one)
	part, rest := big.NewInt(1), new(big.Int).Set(last)
	for _, i := range s.Factors {
		f := toBig(c.Steps[i].Prime)
		if new(big.Int).Mod(last, f).Sign() != 0 {
			return false
		}
		for new(big.Int).Mod(rest, f).Sign() == 0 {
			rest.Div(rest, f)
			part.Mul(part, f)
		}
	}
	if new(big.Int).Mul(part, part).Cmp(p) <= 0 || new(big.Int).Exp(toBig(s.Base), last, p).Cmp(one) != 0 {
		return false
	}
	for _, i := range s.Factors {
		power := new(big.Int).Exp(toBig(s.Base), new(big.Int).Div(last, toBig(c.Steps[i].Prime)), p)
		if power.Sign() == 0 || new(big.Int).GCD(nil, nil, power.Sub(power, one), p).Cmp(one) != 0 {
			return false
		}
	}
	return true
}
