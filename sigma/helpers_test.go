package sigma

import (
	"fmt"
	"math"
	"math/big"
	"math/rand"
	"slices"
	"strings"
	"testing"

	"domino/api"
	"domino/integer"
	"domino/natural"
)

// nat returns the string of a small number.
func nat(n uint64) api.Nat {
	return natural.Of(n)
}

// nats returns the strings of small numbers.
func nats(l ...uint64) []api.Nat {
	var out []api.Nat
	for _, n := range l {
		out = append(out, nat(n))
	}
	return out
}

// ints returns small integers.
func ints(l ...int64) []api.Int {
	var out []api.Int
	for _, n := range l {
		out = append(out, integer.Of(n))
	}
	return out
}

// values returns the tape with small values.
func values(l ...uint64) api.Tape {
	return api.Tape{Values: nats(l...)}
}

// toBig returns the number of a string.
func toBig(a api.Nat) *big.Int {
	return new(big.Int).SetBytes([]byte(a))
}

// toSigned returns the number of an integer.
func toSigned(a api.Int) *big.Int {
	if a.Neg {
		return new(big.Int).Neg(toBig(a.Abs))
	}
	return toBig(a.Abs)
}

// fromBig returns the canonical string of a number, of any length.
func fromBig(n *big.Int) api.Nat {
	return api.Nat(n.Bytes())
}

// fromSigned returns the integer of a number.
func fromSigned(n *big.Int) api.Int {
	return api.Int{Neg: n.Sign() < 0, Abs: fromBig(n)}
}

// hexadecimal returns the string of the number with these digits.
func hexadecimal(digits string) api.Nat {
	n, _ := new(big.Int).SetString(digits, 16)
	return fromBig(n)
}

// long returns base^exponent plus a small number.
func long(base, exponent, more int64) *big.Int {
	n := new(big.Int).Exp(big.NewInt(base), big.NewInt(exponent), nil)
	return n.Add(n, big.NewInt(more))
}

// ones returns n bytes 255.
func ones(n int) api.Nat {
	return api.Nat(strings.Repeat("\xff", n))
}

// invalid returns strings that are not canonical.
func invalid() []api.Nat {
	return []api.Nat{"\x00", "\x00\x04", "\x00" + ones(128), "\x01" + ones(128), ones(129), ones(1000)}
}

// invalidInts returns integers that are not valid.
func invalidInts() []api.Int {
	out := []api.Int{{Neg: true}}
	for _, bad := range invalid() {
		out = append(out, api.Int{Abs: bad}, api.Int{Neg: true, Abs: bad})
	}
	return out
}

// malformed returns tapes that are not well-formed.
func malformed() []api.Tape {
	out := []api.Tape{{At: -1}, {At: math.MinInt}, {At: math.MaxInt32 + 1}, {Seed: "a", At: math.MaxInt32 + 1}, {Seed: "a", At: -1}, {Values: nats(1, 1, 1, 1), At: -1}}
	for _, bad := range invalid() {
		out = append(out, api.Tape{Values: []api.Nat{bad}}, api.Tape{Values: []api.Nat{"\x01", "\x01", bad}}, api.Tape{Values: []api.Nat{bad}, Seed: "a", At: 1})
	}
	return out
}

// rule returns a rule with small numbers.
func rule(challenges, slack uint64) api.Rule {
	return api.Rule{Challenges: nat(challenges), Slack: nat(slack)}
}

// group returns a group with small numbers.
func group(p, q uint64) api.Group {
	return api.Group{Modulus: nat(p), Order: nat(q)}
}

// second returns the group of RFC 2409, section 6.2, whose modulus is a safe prime of 128 bytes.
func second() api.Group {
	p := hexadecimal("FFFFFFFFFFFFFFFFC90FDAA22168C234C4C6628B80DC1CD129024E088A67CC74020BBEA63B139B22514A08798E3404DDEF9519B3CD3A431B" +
		"302B0A6DF25F14374FE1356D6D51C245E485B576625E7EC6F44C42E9A637ED6B0BFF5CB6F406B7EDEE386BFB5A899FA5AE9F24117C4B1FE649286651ECE65381FFFFFFFFFFFFFFFF")
	return api.Group{Modulus: p, Order: fromBig(new(big.Int).Rsh(toBig(p), 1))}
}

// variables returns variables with small bounds.
func variables(bounds ...uint64) []api.Variable {
	var out []api.Variable
	for _, b := range bounds {
		out = append(out, api.Variable{Bound: nat(b)})
	}
	return out
}

// term returns a term with small numbers.
func term(base uint64, v int, coef int64) api.Term {
	return api.Term{Base: nat(base), Var: v, Coef: integer.Of(coef)}
}

// equation returns an equation with small numbers.
func equation(g int, target uint64, terms ...api.Term) api.Equation {
	return api.Equation{Group: g, Target: nat(target), Terms: terms}
}

// logarithm returns the statement 18 = 4^w of the document's examples.
func logarithm(bound uint64) api.Statement {
	return api.Statement{Groups: []api.Group{group(23, 11)}, Vars: variables(bound), Equations: []api.Equation{equation(0, 18, term(4, 0, 1))}}
}

// mixed returns a statement about a number modulo 11 and two integers in three groups, which holds for 3, 2 and -1.
func mixed() api.Statement {
	return api.Statement{
		Groups: []api.Group{group(77, 0), group(23, 11), group(67, 11)},
		Vars:   variables(0, 5, 9),
		Equations: []api.Equation{
			equation(1, 4, term(4, 0, 1), term(9, 1, -1), term(3, 2, 2)), // 18 * 2 * 18
			equation(0, 39, term(4, 1, 0), term(2, 2, 1)),
			equation(2, 9, term(9, 2, -5), term(22, 0, -1)), // 9^5 = 22, and 22^-2 = 9
			equation(0, 1),
		},
	}
}

// edited returns a copy of a statement that was changed.
func edited(s api.Statement, change func(s *api.Statement)) api.Statement {
	out := api.Statement{Groups: slices.Clone(s.Groups), Vars: slices.Clone(s.Vars)}
	for _, e := range s.Equations {
		e.Terms = slices.Clone(e.Terms)
		out.Equations = append(out.Equations, e)
	}
	change(&out)
	return out
}

// wrong is a statement that is not valid, with its error.
type wrong struct {
	s   api.Statement
	err api.Errno
}

// wrongs returns statements that are not valid.
func wrongs() []wrong {
	out := []wrong{
		{edited(mixed(), func(s *api.Statement) { s.Equations[0].Group = 3 }), api.ErrForm},
		{edited(mixed(), func(s *api.Statement) { s.Equations[0].Terms[0].Var = -1 }), api.ErrForm},
		{edited(mixed(), func(s *api.Statement) { s.Equations[0].Terms[0].Coef = api.Int{Neg: true} }), api.ErrForm},
		{edited(mixed(), func(s *api.Statement) { s.Groups = slices.Repeat(s.Groups, 3) }), api.ErrMany},
		{edited(mixed(), func(s *api.Statement) { s.Vars = slices.Repeat(s.Vars, 22) }), api.ErrMany},
		{edited(mixed(), func(s *api.Statement) { s.Groups[0].Modulus = nat(78) }), api.ErrGroup},
		{edited(mixed(), func(s *api.Statement) { s.Equations[0].Target = nat(5) }), api.ErrGroup},
		{edited(mixed(), func(s *api.Statement) { s.Groups = append(s.Groups, group(29, 7)) }), api.ErrType},
		{edited(mixed(), func(s *api.Statement) { s.Equations[1].Terms[1].Var = 0 }), api.ErrType},
	}
	for _, bad := range invalid() {
		out = append(out, wrong{edited(mixed(), func(s *api.Statement) { s.Vars[1].Bound = bad }), api.ErrForm})
	}
	return out
}

// short returns the beginning of a description of anything.
func short(x any) string {
	s := fmt.Sprintf("%v", x)
	return s[:min(len(s), 600)]
}

// random returns a random element of a well-formed group, with a power of a random number for a prime Modulus.
func random(r *rand.Rand, g api.Group) api.Nat {
	n, one := toBig(g.Modulus), big.NewInt(1)
	for {
		x := new(big.Int).Rand(r, n)
		if x.Sign() == 0 || new(big.Int).GCD(nil, nil, x, n).Cmp(one) != 0 {
			continue
		}
		if g.Order != "" {
			x.Exp(x, new(big.Int).Div(new(big.Int).Sub(n, one), toBig(g.Order)), n)
		}
		return fromBig(x)
	}
}

// below returns a random integer whose magnitude is less than a bound other than 0.
func below(r *rand.Rand, bound *big.Int) api.Int {
	n := new(big.Int).Rand(r, bound)
	if r.Intn(2) == 0 {
		n.Neg(n)
	}
	return fromSigned(n)
}

// lists returns lists of groups of several sizes with prime orders, all of which have the same Order.
func lists() [][]api.Group {
	return [][]api.Group{
		{group(23, 11)}, {group(77, 0)}, {group(7, 3), group(1081, 0)}, {group(77, 0), group(67, 11), group(23, 11)},
		{group(18446744073709551557, 5594472617641), group(18446744073709551615, 0)}, {second(), {Modulus: ones(127)}},
	}
}

// sample returns a random statement in groups that has variables, and a witness for which it holds.
func sample(r *rand.Rand, groups []api.Group, bits int) (api.Statement, []api.Int) {
	s := api.Statement{Groups: groups}
	q := referenceOrder(s)
	var w []api.Int
	for range 1 + r.Intn(4) {
		if q != nil && r.Intn(2) == 0 {
			s.Vars, w = append(s.Vars, api.Variable{}), append(w, fromSigned(new(big.Int).Rand(r, q)))
			continue
		}
		bound := new(big.Int).Add(new(big.Int).Rand(r, new(big.Int).Lsh(big.NewInt(1), uint(r.Intn(bits+1)))), big.NewInt(1))
		s.Vars, w = append(s.Vars, api.Variable{Bound: fromBig(bound)}), append(w, below(r, bound))
	}
	for range r.Intn(4) {
		e := api.Equation{Group: r.Intn(len(groups))}
		for range r.Intn(5) {
			t := api.Term{Base: random(r, groups[e.Group]), Var: r.Intn(len(s.Vars)), Coef: integer.Of(int64(r.Intn(3) - 1))}
			if s.Vars[t.Var].Bound != "" || groups[e.Group].Order != "" {
				e.Terms = append(e.Terms, t)
			}
		}
		e.Target = referenceImage(groups[e.Group], e.Terms, w)
		s.Equations = append(s.Equations, e)
	}
	return s, w
}

// sameTape reports whether two tapes are equal.
func sameTape(a, b api.Tape) bool {
	return slices.Equal(a.Values, b.Values) && a.Seed == b.Seed && a.At == b.At
}

// sameProof reports whether two proofs are equal.
func sameProof(a, b api.Proof) bool {
	return slices.Equal(a.First, b.First) && a.Challenge == b.Challenge && slices.Equal(a.Responses, b.Responses)
}

// expectError checks an error.
func expectError(t *testing.T, what string, got, wanted api.Errno) {
	t.Helper()
	if got != wanted {
		t.Errorf("%s: got error %d, want %d", what, got, wanted)
	}
}
