package linear

import (
	"math"
	"math/big"
	"math/rand"
	"slices"
	"testing"

	"domino/api"
)

// canonical decides by the definition whether a string is canonical.
func canonical(a api.Nat) bool {
	return len(a) <= 128 && (a == "" || a[0] != 0)
}

// referenceCheck returns the error of a statement by the definition.
func referenceCheck(s api.Statement) api.Errno {
	switch {
	case !referenceForm(s):
		return api.ErrForm
	case len(s.Groups) > 8 || len(s.Vars) > 64 || len(s.Equations) > 64 || slices.ContainsFunc(s.Equations, func(e api.Equation) bool { return len(e.Terms) > 64 }):
		return api.ErrMany
	case !referenceElements(s):
		return api.ErrGroup
	case !referenceTypes(s):
		return api.ErrType
	}
	return api.OK
}

// referenceForm decides about the first group of conditions.
func referenceForm(s api.Statement) bool {
	var numbers []api.Nat
	ok := true
	for _, g := range s.Groups {
		numbers = append(numbers, g.Modulus, g.Order)
	}
	for _, v := range s.Vars {
		numbers = append(numbers, v.Bound)
	}
	for _, e := range s.Equations {
		numbers = append(numbers, e.Target)
		ok = ok && e.Group >= 0 && e.Group < len(s.Groups)
		for _, t := range e.Terms {
			numbers = append(numbers, t.Base, t.Coef.Abs)
			ok = ok && t.Var >= 0 && t.Var < len(s.Vars) && (!t.Coef.Neg || t.Coef.Abs != "")
		}
	}
	for _, n := range numbers {
		ok = ok && canonical(n)
	}
	return ok
}

// referenceElements decides about the third group of conditions.
func referenceElements(s api.Statement) bool {
	for _, g := range s.Groups {
		if !wellFormed(g) {
			return false
		}
	}
	for _, e := range s.Equations {
		if !member(s.Groups[e.Group], toBig(e.Target)) {
			return false
		}
		for _, t := range e.Terms {
			if !member(s.Groups[e.Group], toBig(t.Base)) {
				return false
			}
		}
	}
	return true
}

// referenceTypes decides about the last group of conditions.
func referenceTypes(s api.Statement) bool {
	if !slices.Contains(s.Vars, api.Variable{}) {
		return true
	}
	orders := map[api.Nat]bool{}
	for _, g := range s.Groups {
		if g.Order != "" {
			orders[g.Order] = true
		}
	}
	if len(orders) != 1 {
		return false
	}
	for _, e := range s.Equations {
		for _, t := range e.Terms {
			if s.Vars[t.Var].Bound == "" && s.Groups[e.Group].Order == "" {
				return false
			}
		}
	}
	return true
}

// change is a change of the statement mixed that violates a condition.
type change struct {
	what string
	edit func(s *api.Statement)
	err  api.Errno
}

// changes returns changes of the statement mixed, by their errors.
func changes() []change {
	out := []change{
		{"a negative group", func(s *api.Statement) { s.Equations[0].Group = -1 }, api.ErrForm},
		{"a group that does not exist", func(s *api.Statement) { s.Equations[2].Group = len(s.Groups) }, api.ErrForm},
		{"the greatest group", func(s *api.Statement) { s.Equations[3].Group = math.MaxInt }, api.ErrForm},
		{"a negative variable", func(s *api.Statement) { s.Equations[0].Terms[1].Var = -1 }, api.ErrForm},
		{"a variable that does not exist", func(s *api.Statement) { s.Equations[2].Terms[1].Var = len(s.Vars) }, api.ErrForm},
		{"the least variable", func(s *api.Statement) { s.Equations[1].Terms[0].Var = math.MinInt }, api.ErrForm},
		{"nine groups", func(s *api.Statement) { s.Groups = append(s.Groups, slices.Repeat(s.Groups[:1], 6)...) }, api.ErrMany},
		{"65 variables", func(s *api.Statement) { s.Vars = append(s.Vars, slices.Repeat(variables(5), 62)...) }, api.ErrMany},
		{"65 equations", func(s *api.Statement) { s.Equations = append(s.Equations, slices.Repeat(s.Equations[3:], 61)...) }, api.ErrMany},
		{"65 terms of the first equation", func(s *api.Statement) { s.Equations[0].Terms = slices.Repeat(s.Equations[0].Terms[:1], 65) }, api.ErrMany},
		{"65 terms of the last equation", func(s *api.Statement) { s.Equations[3].Terms = slices.Repeat(s.Equations[1].Terms[1:], 65) }, api.ErrMany},
		{"the target 0", func(s *api.Statement) { s.Equations[0].Target = "" }, api.ErrGroup},
		{"a target beyond the modulus", func(s *api.Statement) { s.Equations[0].Target = nat(27) }, api.ErrGroup},
		{"a target with another order", func(s *api.Statement) { s.Equations[2].Target = nat(66) }, api.ErrGroup},
		{"a target that is not a unit", func(s *api.Statement) { s.Equations[3].Target = nat(22) }, api.ErrGroup},
		{"the base 0", func(s *api.Statement) { s.Equations[1].Terms[0].Base = "" }, api.ErrGroup},
		{"a base that is the modulus", func(s *api.Statement) { s.Equations[0].Terms[2].Base = nat(23) }, api.ErrGroup},
		{"a base with another order", func(s *api.Statement) { s.Equations[2].Terms[1].Base = nat(18) }, api.ErrGroup},
		{"a base that is not a unit", func(s *api.Statement) { s.Equations[1].Terms[1].Base = nat(33) }, api.ErrGroup},
		{"a base that is an element of the next group", func(s *api.Statement) { s.Equations[1].Terms[1].Base = nat(22) }, api.ErrGroup},
		{"a base that is an element of an earlier group", func(s *api.Statement) { s.Equations[2].Terms[1].Base = nat(3) }, api.ErrGroup},
		{"two orders", func(s *api.Statement) { s.Groups = append(s.Groups, group(29, 7)) }, api.ErrType},
		{"no order", func(s *api.Statement) {
			s.Groups = []api.Group{group(77, 0), group(69, 0), group(69, 0)}
			s.Equations = []api.Equation{equation(0, 39, term(2, 2, 1))}
		}, api.ErrType},
		{"a number modulo 11 in a group of unknown order", func(s *api.Statement) { s.Equations[1].Terms[0].Var = 0 }, api.ErrType},
		{"a last term with a number modulo 11 in a group of unknown order", func(s *api.Statement) { s.Equations[1].Terms[1].Var = 0 }, api.ErrType},
	}
	for _, g := range misformed() {
		out = append(out, change{"a group that is not well-formed", func(s *api.Statement) { s.Groups = append(s.Groups, g) }, api.ErrGroup})
	}
	for _, bad := range invalid() {
		for i := range 8 {
			out = append(out, change{"a number that is not canonical", func(s *api.Statement) {
				*[]*api.Nat{
					&s.Groups[0].Modulus, &s.Groups[0].Order, &s.Groups[2].Order, &s.Vars[0].Bound,
					&s.Vars[2].Bound, &s.Equations[0].Target, &s.Equations[3].Target, &s.Equations[2].Terms[1].Base,
				}[i] = bad
			}, api.ErrForm})
		}
	}
	for _, bad := range invalidInts() {
		out = append(out, change{"a coefficient that is not valid", func(s *api.Statement) { s.Equations[0].Terms[0].Coef = bad }, api.ErrForm})
		out = append(out, change{"a last coefficient that is not valid", func(s *api.Statement) { s.Equations[2].Terms[1].Coef = bad }, api.ErrForm})
	}
	return out
}

// P15.1: every condition, and the order of the groups of conditions.
func TestCheckOfChanges(t *testing.T) {
	expectError(t, "mixed", Check(mixed()), api.OK)
	rank := map[api.Errno]int{api.ErrForm: 1, api.ErrMany: 2, api.ErrGroup: 3, api.ErrType: 4}
	for _, x := range changes() {
		s := edited(mixed(), x.edit)
		expectError(t, x.what, Check(s), x.err)
		expectError(t, x.what+" by the definition", referenceCheck(s), x.err)
		for _, y := range changes() {
			if rank[x.err] <= rank[y.err] || x.what == "no order" {
				continue
			}
			s := edited(mixed(), func(s *api.Statement) { x.edit(s); y.edit(s) })
			expectError(t, x.what+", "+y.what, Check(s), y.err)
		}
	}
}

// P15.1: all small statements with up to two groups and variables, and up to two equations with one term.
func TestCheckOfTypes(t *testing.T) {
	var groups [][]api.Group
	all := []api.Group{group(23, 11), group(67, 11), group(29, 7), group(77, 0)}
	for _, g := range all {
		groups = append(groups, []api.Group{g})
		for _, h := range all {
			groups = append(groups, []api.Group{g, h})
		}
	}
	count := map[api.Errno]int{}
	for _, list := range groups {
		for _, vars := range [][]api.Variable{nil, variables(0), variables(4), variables(0, 0), variables(0, 4), variables(4, 0), variables(4, 4)} {
			for i := range 81 {
				s := api.Statement{Groups: list, Vars: vars}
				for _, digits := range []int{i % 9, i / 9} {
					if g, v := digits%3, digits/3; g < 2 && v < 2 {
						s.Equations = append(s.Equations, equation(g, 1, term(1, v, 1)))
					}
				}
				wanted := referenceCheck(s)
				if err := Check(s); err != wanted {
					t.Fatalf("%s: got error %d, want %d", short(s), err, wanted)
				}
				count[wanted]++
			}
		}
	}
	for _, e := range []api.Errno{api.OK, api.ErrForm, api.ErrType} {
		if count[e] < 500 {
			t.Errorf("error %d occurred %d times only", e, count[e])
		}
	}
}

// P15.1: statements in groups of all kinds, also with random changes.
func TestCheckOfRandomStatements(t *testing.T) {
	r := rand.New(rand.NewSource(1))
	count := map[api.Errno]int{}
	for i, groups := range append(smallGroups(), longGroups()...) {
		for range []int{60, 10}[i/len(smallGroups())] {
			s, _ := sample(r, groups, 60)
			expectError(t, short(s), Check(s), api.OK)
			numbers := []*api.Nat{&s.Groups[r.Intn(len(groups))].Modulus, &s.Groups[r.Intn(len(groups))].Order}
			for i := range s.Vars {
				numbers = append(numbers, &s.Vars[i].Bound)
			}
			for i, e := range s.Equations {
				numbers = append(numbers, &s.Equations[i].Target)
				for j := range e.Terms {
					numbers = append(numbers, &e.Terms[j].Base, &e.Terms[j].Base)
				}
			}
			for range r.Intn(3) {
				n := numbers[r.Intn(len(numbers))]
				switch r.Intn(3) {
				case 0:
					*n = ""
				case 1:
					*n = fromBig(new(big.Int).Add(toBig(*n), big.NewInt(1)))
				case 2:
					*n = random(r, api.Group{Modulus: ones(1 + r.Intn(3))})
				}
			}
			wanted := referenceCheck(s)
			if err := Check(s); err != wanted {
				t.Fatalf("%s: got error %d, want %d", short(s), err, wanted)
			}
			count[wanted]++
		}
	}
	for _, e := range []api.Errno{api.OK, api.ErrGroup, api.ErrType} {
		if count[e] < 10 {
			t.Errorf("error %d occurred %d times only", e, count[e])
		}
	}
}

// P15.1: the same number in groups with the same Modulus, or the same Order.
func TestCheckOfEqualNumbers(t *testing.T) {
	groups := []api.Group{group(23, 22), group(23, 11), group(67, 22)}
	for i := range groups {
		for j := range groups {
			for x := range uint64(23) {
				s := api.Statement{Groups: groups, Vars: variables(4), Equations: []api.Equation{equation(i, 1, term(x, 0, 1)), equation(j, 1, term(x, 0, 1))}}
				expectError(t, short(s), Check(s), referenceCheck(s))
				s.Equations = []api.Equation{equation(i, x), equation(j, x)}
				expectError(t, short(s), Check(s), referenceCheck(s))
			}
		}
	}
}

// P15.1: the limits, and statements without anything.
func TestCheckOfLimits(t *testing.T) {
	s := api.Statement{Groups: slices.Repeat([]api.Group{group(23, 11)}, 8), Vars: slices.Repeat(variables(0), 64)}
	e := api.Equation{Group: 7, Target: nat(1), Terms: slices.Repeat([]api.Term{term(4, 63, 1)}, 64)}
	s.Equations = slices.Repeat([]api.Equation{e}, 64)
	expectError(t, "the limits", Check(s), api.OK)
	expectError(t, "nothing", Check(api.Statement{}), api.OK)
	expectError(t, "a group only", Check(api.Statement{Groups: []api.Group{group(77, 0)}}), api.OK)
	expectError(t, "a variable only", Check(api.Statement{Vars: variables(1)}), api.OK)
	expectError(t, "a variable without an order", Check(api.Statement{Vars: variables(0)}), api.ErrType)
	expectError(t, "an equation only", Check(api.Statement{Equations: []api.Equation{equation(0, 1)}}), api.ErrForm)
	expectError(t, "two orders without a variable that belongs to them", Check(api.Statement{Groups: []api.Group{group(29, 7), group(23, 11)}, Vars: variables(4)}), api.OK)
	expectError(t, "an order of another group", Check(api.Statement{Groups: []api.Group{group(77, 0), group(23, 11)}, Vars: variables(0)}), api.OK)
	for _, g := range misformed() {
		expectError(t, "a group that is not well-formed", Check(api.Statement{Groups: []api.Group{g}}), api.ErrGroup)
	}
}
