package linear

import (
	"fmt"
	"math/big"
	"math/rand"
	"slices"
	"strings"
	"testing"

	"domino/api"
	"domino/integer"
	"domino/natural"
)

// nat returns the string of a small number.
func nat(n uint64) api.Nat {
	return natural.Of(n)
}

// ints returns small integers.
func ints(l ...int64) []api.Int {
	var out []api.Int
	for _, n := range l {
		out = append(out, integer.Of(n))
	}
	return out
}

// toBig returns the number of a string.
func toBig(a api.Nat) *big.Int {
	return new(big.Int).SetBytes([]byte(a))
}

// toSigned returns the number of an integer.
func toSigned(a api.Int) *big.Int {
	if a.Neg {
		return new(big.Int).Neg(toBig(a.Abs))
	}
	return toBig(a.Abs)
}

// fromBig returns the canonical string of a number, of any length.
func fromBig(n *big.Int) api.Nat {
	return api.Nat(n.Bytes())
}

// fromSigned returns the integer of a number.
func fromSigned(n *big.Int) api.Int {
	return api.Int{Neg: n.Sign() < 0, Abs: fromBig(n)}
}

// hexadecimal returns the string of the number with these digits.
func hexadecimal(digits string) api.Nat {
	n, _ := new(big.Int).SetString(digits, 16)
	return fromBig(n)
}

// long returns base^exponent plus a small number.
func long(base, exponent, more int64) *big.Int {
	n := new(big.Int).Exp(big.NewInt(base), big.NewInt(exponent), nil)
	return n.Add(n, big.NewInt(more))
}

// ones returns n bytes 255.
func ones(n int) api.Nat {
	return api.Nat(strings.Repeat("\xff", n))
}

// invalid returns strings that are not canonical.
func invalid() []api.Nat {
	return []api.Nat{"\x00", "\x00\x04", "\x00\x17", "\x00" + ones(128), "\x01" + ones(128), ones(129), ones(1000)}
}

// invalidInts returns integers that are not valid.
func invalidInts() []api.Int {
	out := []api.Int{{Neg: true}}
	for _, bad := range invalid() {
		out = append(out, api.Int{Abs: bad}, api.Int{Neg: true, Abs: bad})
	}
	return out
}

// group returns a group with small numbers.
func group(p, q uint64) api.Group {
	return api.Group{Modulus: nat(p), Order: nat(q)}
}

// second returns the group of RFC 2409, section 6.2, whose modulus is a safe prime of 128 bytes.
func second() api.Group {
	p := hexadecimal("FFFFFFFFFFFFFFFFC90FDAA22168C234C4C6628B80DC1CD129024E088A67CC74020BBEA63B139B22514A08798E3404DDEF9519B3CD3A431B" +
		"302B0A6DF25F14374FE1356D6D51C245E485B576625E7EC6F44C42E9A637ED6B0BFF5CB6F406B7EDEE386BFB5A899FA5AE9F24117C4B1FE649286651ECE65381FFFFFFFFFFFFFFFF")
	return api.Group{Modulus: p, Order: fromBig(new(big.Int).Rsh(toBig(p), 1))}
}

// misformed returns groups with canonical numbers that are not well-formed.
func misformed() []api.Group {
	return []api.Group{
		{}, group(1, 0), group(7, 0), group(8, 0), group(10, 0), {Modulus: ones(127) + "\xfe"},
		group(0, 11), group(1, 11), group(23, 1), group(23, 10), group(23, 23), group(11, 23), {Modulus: nat(23), Order: ones(128)},
	}
}

// smallGroups returns lists of well-formed groups with small numbers; some have groups of two orders, and some a group whose Order or Modulus is composite.
func smallGroups() [][]api.Group {
	return [][]api.Group{
		{group(23, 11)}, {group(77, 0)}, {group(23, 22)}, {group(16, 15)}, {group(23, 11), group(77, 0)}, {group(1081, 0), group(1187, 593)},
		{group(67, 11), group(15, 0), group(23, 11)}, {group(29, 7), group(23, 11)}, {group(77, 0), group(7, 3), group(9, 0), group(13, 4)},
	}
}

// longGroups returns lists of well-formed groups with long numbers.
func longGroups() [][]api.Group {
	return [][]api.Group{
		{group(18446744073709551557, 5594472617641), group(18446744073709551615, 0)}, {second()}, {{Modulus: ones(128)}}, {{Modulus: ones(127)}, second()},
	}
}

// variables returns variables with small bounds.
func variables(bounds ...uint64) []api.Variable {
	var out []api.Variable
	for _, b := range bounds {
		out = append(out, api.Variable{Bound: nat(b)})
	}
	return out
}

// term returns a term with small numbers.
func term(base uint64, v int, coef int64) api.Term {
	return api.Term{Base: nat(base), Var: v, Coef: integer.Of(coef)}
}

// equation returns an equation with small numbers.
func equation(g int, target uint64, terms ...api.Term) api.Equation {
	return api.Equation{Group: g, Target: nat(target), Terms: terms}
}

// logarithm returns the statement 18 = 4^w in the group of the document's examples.
func logarithm(bound uint64) api.Statement {
	return api.Statement{Groups: []api.Group{group(23, 11)}, Vars: variables(bound), Equations: []api.Equation{equation(0, 18, term(4, 0, 1))}}
}

// mixed returns a statement about a number modulo 11 and two integers in three groups, which holds for 3, 2 and -1.
func mixed() api.Statement {
	return api.Statement{
		Groups: []api.Group{group(77, 0), group(23, 11), group(67, 11)},
		Vars:   variables(0, 5, 9),
		Equations: []api.Equation{
			equation(1, 4, term(4, 0, 1), term(9, 1, -1), term(3, 2, 2)), // 18 * 2 * 18
			equation(0, 39, term(4, 1, 0), term(2, 2, 1)),
			equation(2, 9, term(9, 2, -5), term(22, 0, -1)), // 9^5 = 22, and 22^-2 = 9
			equation(0, 1),
		},
	}
}

// copied returns a statement with the same content and memory of its own.
func copied(s api.Statement) api.Statement {
	out := api.Statement{Groups: slices.Clone(s.Groups), Vars: slices.Clone(s.Vars)}
	for _, e := range s.Equations {
		e.Terms = slices.Clone(e.Terms)
		out.Equations = append(out.Equations, e)
	}
	return out
}

// edited returns a copy of a statement that was changed.
func edited(s api.Statement, change func(s *api.Statement)) api.Statement {
	s = copied(s)
	change(&s)
	return s
}

// short returns the beginning of a description of a statement.
func short(s api.Statement) string {
	w := written(s)
	return w[:min(len(w), 600)]
}

// written returns a string by which two statements are equal if they have the same content.
func written(s api.Statement) string {
	var b strings.Builder
	for _, g := range s.Groups {
		fmt.Fprintf(&b, "group %x %x\n", g.Modulus, g.Order)
	}
	for _, v := range s.Vars {
		fmt.Fprintf(&b, "variable %x\n", v.Bound)
	}
	for _, e := range s.Equations {
		fmt.Fprintf(&b, "equation %d %x\n", e.Group, e.Target)
		for _, t := range e.Terms {
			fmt.Fprintf(&b, "term %x %d %v %x\n", t.Base, t.Var, t.Coef.Neg, t.Coef.Abs)
		}
	}
	return b.String()
}

// wellFormed decides by the definition whether a group is well-formed.
func wellFormed(g api.Group) bool {
	n, q, one := toBig(g.Modulus), toBig(g.Order), big.NewInt(1)
	if q.Sign() == 0 {
		return n.Bit(0) == 1 && n.Cmp(big.NewInt(8)) > 0
	}
	last := new(big.Int).Sub(n, one)
	return q.Cmp(one) > 0 && n.Cmp(one) > 0 && last.Mod(last, q).Sign() == 0
}

// member decides by the definition whether x is an element of a well-formed group.
func member(g api.Group, x *big.Int) bool {
	n, q, one := toBig(g.Modulus), toBig(g.Order), big.NewInt(1)
	if x.Sign() <= 0 || x.Cmp(n) >= 0 {
		return false
	}
	if q.Sign() == 0 {
		return new(big.Int).GCD(nil, nil, x, n).Cmp(one) == 0
	}
	return new(big.Int).Exp(x, q, n).Cmp(one) == 0
}

// random returns a random element of a well-formed group.
func random(r *rand.Rand, g api.Group) api.Nat {
	n, one := toBig(g.Modulus), big.NewInt(1)
	for {
		x := new(big.Int).Rand(r, n)
		if g.Order != "" && r.Intn(10) > 0 {
			// Almost all results are elements if Modulus is prime.
			x.Exp(x, new(big.Int).Div(new(big.Int).Sub(n, one), toBig(g.Order)), n)
		}
		if member(g, x) {
			return fromBig(x)
		}
	}
}

// below returns a random integer whose magnitude is less than a bound other than 0.
func below(r *rand.Rand, bound *big.Int) api.Int {
	n := new(big.Int).Rand(r, bound)
	if r.Intn(2) == 0 {
		n.Neg(n)
	}
	return fromSigned(n)
}

// randomInt returns an integer whose magnitude has at most the given number of bits.
func randomInt(r *rand.Rand, bits int) api.Int {
	return below(r, new(big.Int).Lsh(big.NewInt(1), uint(r.Intn(bits+1))))
}

// raised returns a power by the definition, with the inverse for a negative exponent.
func raised(g api.Group, x api.Nat, e *big.Int) *big.Int {
	n, a := toBig(g.Modulus), toBig(x)
	if e.Sign() < 0 {
		a.ModInverse(a, n)
	}
	return a.Exp(a, new(big.Int).Abs(e), n)
}

// referenceOrder returns the order of a statement by the definition, nil without one.
func referenceOrder(s api.Statement) *big.Int {
	for _, g := range s.Groups {
		if g.Order != "" {
			return toBig(g.Order)
		}
	}
	return nil
}

// sample returns a random valid statement in groups, and a witness for which it holds.
func sample(r *rand.Rand, groups []api.Group, bits int) (api.Statement, []api.Int) {
	s := api.Statement{Groups: slices.Clone(groups)}
	var orders []api.Nat
	for _, g := range groups {
		if g.Order != "" {
			orders = append(orders, g.Order)
		}
	}
	residues := len(orders) > 0 && !slices.ContainsFunc(orders, func(q api.Nat) bool { return q != orders[0] })
	var w []api.Int
	for range r.Intn(5) {
		if residues && r.Intn(2) == 0 {
			s.Vars = append(s.Vars, api.Variable{})
			w = append(w, fromSigned(new(big.Int).Rand(r, toBig(orders[0]))))
			continue
		}
		bound := new(big.Int).Add(toBig(randomInt(r, bits).Abs), big.NewInt(1))
		s.Vars = append(s.Vars, api.Variable{Bound: fromBig(bound)})
		w = append(w, below(r, bound))
	}
	for range r.Intn(5) {
		e := api.Equation{Group: r.Intn(len(groups))}
		for range r.Intn(5) {
			if len(s.Vars) == 0 {
				break
			}
			t := api.Term{Base: random(r, groups[e.Group]), Var: r.Intn(len(s.Vars)), Coef: randomInt(r, bits)}
			if s.Vars[t.Var].Bound == "" && len(orders[0]) > 60 {
				// Other products would be too long.
				t.Coef = integer.Of(int64(r.Intn(3) - 1))
			}
			if s.Vars[t.Var].Bound != "" || groups[e.Group].Order != "" {
				e.Terms = append(e.Terms, t)
			}
		}
		e.Target = referenceImage(groups[e.Group], e.Terms, w)
		s.Equations = append(s.Equations, e)
	}
	return s, w
}

// referenceImage returns the product of terms by the definition.
func referenceImage(g api.Group, terms []api.Term, w []api.Int) api.Nat {
	p := big.NewInt(1)
	for _, t := range terms {
		p.Mul(p, raised(g, t.Base, new(big.Int).Mul(toSigned(t.Coef), toSigned(w[t.Var]))))
		p.Mod(p, toBig(g.Modulus))
	}
	return fromBig(p)
}

// expectError checks an error.
func expectError(t *testing.T, what string, got, wanted api.Errno) {
	t.Helper()
	if got != wanted {
		t.Errorf("%s: got error %d, want %d", what, got, wanted)
	}
}
