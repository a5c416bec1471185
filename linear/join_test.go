package linear

import (
	"math"
	"math/big"
	"math/rand"
	"slices"
	"testing"

	"domino/api"
	"domino/integer"
)

// referenceJoin returns a joined statement and the indices of the variables of b, or an error, by the definition.
func referenceJoin(a, b api.Statement, same [][2]int) (api.Statement, []int, api.Errno) {
	if !referenceForm(a) || !referenceForm(b) {
		return api.Statement{}, nil, api.ErrForm
	}
	for _, s := range []api.Statement{a, b} {
		if err := referenceCheck(s); err != api.OK {
			return api.Statement{}, nil, err
		}
	}
	into := map[int]int{}
	var errs []api.Errno
	for _, p := range same {
		i, j := p[0], p[1]
		if i < 0 || j < 0 || i >= len(a.Vars) || j >= len(b.Vars) {
			errs = append(errs, api.ErrRange)
			continue
		}
		if _, ok := into[j]; ok {
			errs = append(errs, api.ErrTwice)
		}
		if len(a.Vars[i].Bound)*len(b.Vars[j].Bound) == 0 && len(a.Vars[i].Bound)+len(b.Vars[j].Bound) > 0 {
			errs = append(errs, api.ErrType)
		}
		into[j] = i
	}
	for _, err := range []api.Errno{api.ErrRange, api.ErrTwice, api.ErrType} {
		if slices.Contains(errs, err) {
			return api.Statement{}, nil, err
		}
	}
	joined := copied(a)
	joined.Groups = append(joined.Groups, b.Groups...)
	var at []int
	for j, v := range b.Vars {
		i, ok := into[j]
		if !ok {
			i = len(joined.Vars)
			joined.Vars = append(joined.Vars, v)
		}
		if toBig(v.Bound).Cmp(toBig(joined.Vars[i].Bound)) < 0 {
			joined.Vars[i].Bound = v.Bound
		}
		at = append(at, i)
	}
	for _, e := range copied(b).Equations {
		e.Group += len(a.Groups)
		for k := range e.Terms {
			e.Terms[k].Var = at[e.Terms[k].Var]
		}
		joined.Equations = append(joined.Equations, e)
	}
	if err := referenceCheck(joined); err != api.OK {
		return api.Statement{}, nil, err
	}
	return joined, at, api.OK
}

// compareJoin compares Join with its definition, and returns what it is.
func compareJoin(t *testing.T, a, b api.Statement, same [][2]int) (api.Statement, []int, api.Errno) {
	t.Helper()
	joined, at, err := Join(a, b, same)
	wanted, wantedAt, e := referenceJoin(a, b, same)
	if err != e || written(joined) != written(wanted) || !slices.Equal(at, wantedAt) {
		t.Fatalf("Join of %s and %s with %v: got %s, %v and error %d, want %s, %v and error %d", short(a), short(b), same, short(joined), at, err, short(wanted), wantedAt, e)
	}
	return joined, at, err
}

// refusedJoin checks that Join returns an error, and nothing else.
func refusedJoin(t *testing.T, what string, a, b api.Statement, same [][2]int, wanted api.Errno) {
	t.Helper()
	s, at, err := Join(a, b, same)
	if err != wanted || written(s) != "" || len(at) > 0 {
		t.Errorf("%s: got %s, %v and error %d, want error %d", what, short(s), at, err, wanted)
	}
}

// P15.2: variables with the same name have the smaller bound, also several ones.
func TestJoinBounds(t *testing.T) {
	for _, x := range []struct {
		a, b, wanted []uint64
		same         [][2]int
		at           []int
	}{
		{[]uint64{9}, []uint64{4}, []uint64{4}, [][2]int{{0, 0}}, []int{0}},
		{[]uint64{4}, []uint64{9}, []uint64{4}, [][2]int{{0, 0}}, []int{0}},
		{[]uint64{4}, []uint64{4}, []uint64{4}, [][2]int{{0, 0}}, []int{0}},
		{[]uint64{0}, []uint64{0}, []uint64{0}, [][2]int{{0, 0}}, []int{0}},
		{[]uint64{9}, []uint64{4}, []uint64{9, 4}, nil, []int{1}},
		{nil, []uint64{4, 5}, []uint64{4, 5}, nil, []int{0, 1}},
		{[]uint64{4, 5}, nil, []uint64{4, 5}, nil, nil},
		{[]uint64{9}, []uint64{7, 8}, []uint64{7}, [][2]int{{0, 0}, {0, 1}}, []int{0, 0}},
		{[]uint64{9}, []uint64{8, 7}, []uint64{7}, [][2]int{{0, 0}, {0, 1}}, []int{0, 0}},
		{[]uint64{9, 300}, []uint64{1, 2, 255, 0}, []uint64{9, 255, 1, 2, 0}, [][2]int{{1, 2}}, []int{2, 3, 1, 4}},
		{[]uint64{0, 9, 0}, []uint64{6, 0, 7, 0}, []uint64{0, 7, 0, 6}, [][2]int{{2, 1}, {0, 3}, {1, 2}}, []int{3, 2, 1, 0}},
	} {
		groups := []api.Group{group(23, 11)}
		a, b := api.Statement{Groups: groups, Vars: variables(x.a...)}, api.Statement{Groups: groups, Vars: variables(x.b...)}
		joined, at, err := compareJoin(t, a, b, x.same)
		if err != api.OK || !slices.Equal(joined.Vars, variables(x.wanted...)) || !slices.Equal(at, x.at) {
			t.Errorf("%v and %v with %v: got %v, %v and error %d", x.a, x.b, x.same, joined.Vars, at, err)
		}
	}
}

// P15.2: statements with groups of all kinds, and all pairs of their variables.
func TestJoinOfRandomStatements(t *testing.T) {
	r := rand.New(rand.NewSource(4))
	count := map[api.Errno]int{}
	for i := range smallGroups() {
		for j := range smallGroups() {
			for range 40 {
				a, _ := sample(r, smallGroups()[i], 20)
				b, _ := sample(r, smallGroups()[j], 20)
				var same [][2]int
				for range r.Intn(4) {
					same = append(same, [2]int{r.Intn(len(a.Vars)+1) - r.Intn(20)/19, r.Intn(len(b.Vars)+1) - r.Intn(20)/19})
				}
				_, _, err := compareJoin(t, a, b, same)
				count[err]++
			}
		}
	}
	for _, groups := range longGroups() {
		a, _ := sample(r, groups, 400)
		b, _ := sample(r, groups, 400)
		compareJoin(t, a, b, nil)
		compareJoin(t, b, a, nil)
	}
	for _, e := range []api.Errno{api.OK, api.ErrRange, api.ErrTwice, api.ErrType} {
		if count[e] < 50 {
			t.Errorf("error %d occurred %d times only", e, count[e])
		}
	}
}

// P15.2: the errors of both statements come first, ErrForm ahead of all others.
func TestJoinErrorsOfStatements(t *testing.T) {
	wrong := [][2]int{{9, 9}, {0, 0}, {0, 0}}
	for _, x := range changes() {
		s := edited(mixed(), x.edit)
		refusedJoin(t, x.what+" in a", s, mixed(), nil, x.err)
		refusedJoin(t, x.what+" in b", mixed(), s, nil, x.err)
		refusedJoin(t, x.what+" in both", s, s, wrong, x.err)
		refusedJoin(t, x.what+" in b, and wrong pairs", logarithm(0), s, wrong, x.err)
		for _, y := range changes() {
			wanted := x.err
			if y.err == api.ErrForm {
				wanted = api.ErrForm
			}
			refusedJoin(t, x.what+" in a, "+y.what+" in b", s, edited(mixed(), y.edit), wrong, wanted)
		}
	}
}

// P15.2: the errors of pairs, each for all pairs ahead of the next one.
func TestJoinErrorsOfPairs(t *testing.T) {
	a, b := mixed(), mixed()
	b.Vars = variables(0, 5, 9)
	for _, i := range []int{-1, 3, 4, math.MinInt, math.MaxInt} {
		refusedJoin(t, "no variable of a", a, b, [][2]int{{i, 0}}, api.ErrRange)
		refusedJoin(t, "no variable of b", a, b, [][2]int{{0, i}}, api.ErrRange)
		refusedJoin(t, "no variable of b in the last pair", a, b, [][2]int{{1, 1}, {1, 1}, {0, 1}, {0, i}}, api.ErrRange)
	}
	refusedJoin(t, "no variables", api.Statement{}, api.Statement{}, [][2]int{{0, 0}}, api.ErrRange)
	refusedJoin(t, "no variable of b", a, logarithm(4), [][2]int{{2, 1}}, api.ErrRange)
	refusedJoin(t, "no variable of a", logarithm(4), a, [][2]int{{1, 2}}, api.ErrRange)
	refusedJoin(t, "twice", a, b, [][2]int{{1, 1}, {1, 1}}, api.ErrTwice)
	refusedJoin(t, "twice, two variables of a", a, b, [][2]int{{1, 1}, {0, 0}, {2, 1}}, api.ErrTwice)
	refusedJoin(t, "twice, behind a pair of other types", a, b, [][2]int{{0, 1}, {0, 0}, {0, 0}}, api.ErrTwice)
	refusedJoin(t, "a number and an integer", a, b, [][2]int{{0, 1}}, api.ErrType)
	refusedJoin(t, "an integer and a number", a, b, [][2]int{{1, 1}, {2, 0}}, api.ErrType)
	refusedJoin(t, "other types, and too many groups", edited(a, func(s *api.Statement) { s.Groups = append(s.Groups, slices.Repeat(s.Groups[:1], 5)...) }), b, [][2]int{{0, 1}}, api.ErrType)
	refusedJoin(t, "a million pairs", a, b, slices.Repeat([][2]int{{1, 1}}, 1000000), api.ErrTwice)
}

// P15.2: the error of the joined statement.
func TestJoinErrorsOfResults(t *testing.T) {
	g := group(23, 11)
	many := func(groups, vars, equations int) api.Statement {
		return api.Statement{Groups: slices.Repeat([]api.Group{g}, groups), Vars: slices.Repeat(variables(4), vars), Equations: slices.Repeat([]api.Equation{equation(0, 1, term(4, 0, 1))}, equations)}
	}
	for _, x := range []struct {
		what string
		a, b api.Statement
		same [][2]int
		err  api.Errno
	}{
		{"eight groups", many(3, 1, 1), many(5, 1, 1), nil, api.OK},
		{"nine groups", many(4, 1, 1), many(5, 1, 1), nil, api.ErrMany},
		{"64 variables", many(1, 60, 1), many(1, 4, 1), nil, api.OK},
		{"65 variables", many(1, 60, 1), many(1, 5, 1), nil, api.ErrMany},
		{"65 variables, two of which are the same", many(1, 60, 1), many(1, 5, 1), [][2]int{{7, 3}}, api.OK},
		{"64 equations", many(1, 1, 1), many(1, 1, 63), nil, api.OK},
		{"65 equations", many(1, 1, 1), many(1, 1, 64), nil, api.ErrMany},
		{"nothing", api.Statement{}, api.Statement{}, nil, api.OK},
	} {
		if _, _, err := compareJoin(t, x.a, x.b, x.same); err != x.err {
			t.Errorf("%s: got error %d", x.what, err)
		}
	}
	seven := api.Statement{Groups: []api.Group{group(29, 7)}, Vars: variables(5)}
	compareJoin(t, seven, logarithm(4), nil)
	refusedJoin(t, "a number modulo 11 behind a group with the order 7", seven, logarithm(0), nil, api.ErrType)
	refusedJoin(t, "a number modulo 11 ahead of a group with the order 7", logarithm(0), seven, nil, api.ErrType)
	seven.Groups = slices.Repeat(seven.Groups, 8)
	refusedJoin(t, "two orders and nine groups", seven, logarithm(0), nil, api.ErrMany)
}

// P15.2: a result shares no memory with the arguments or with itself, and the arguments are not changed.
func TestJoinMemory(t *testing.T) {
	a, b := mixed(), edited(mixed(), func(s *api.Statement) { s.Vars = variables(0, 4, 10) })
	same := [][2]int{{0, 0}, {1, 1}}
	for _, s := range []*api.Statement{&a, &b} {
		s.Groups, s.Vars, s.Equations = slices.Grow(s.Groups, 20), slices.Grow(s.Vars, 20), slices.Grow(s.Equations, 20)
		for i := range s.Equations {
			s.Equations[i].Terms = slices.Grow(s.Equations[i].Terms, 20)
		}
	}
	beforeA, beforeB := written(a), written(b)
	joined, at, err := Join(a, b, same)
	double, _, err2 := Join(a, a, nil)
	if err != api.OK || err2 != api.OK || written(a) != beforeA || written(b) != beforeB || !slices.Equal(same, [][2]int{{0, 0}, {1, 1}}) {
		t.Fatalf("errors %d and %d, arguments %s and %s", err, err2, written(a), written(b))
	}
	unused := [][]api.Term{a.Equations[0].Terms[3:20], a.Equations[3].Terms[:20], b.Equations[0].Terms[3:20]}
	for _, list := range unused {
		for _, x := range list {
			if x != (api.Term{}) {
				t.Errorf("the spare capacity contains %v", x)
			}
		}
	}
	if slices.ContainsFunc(a.Groups[3:20], func(g api.Group) bool { return g != api.Group{} }) || slices.ContainsFunc(a.Vars[3:20], func(v api.Variable) bool { return v != api.Variable{} }) {
		t.Errorf("the spare capacity was changed")
	}
	if e := a.Equations[:20][4]; e.Target != "" || len(e.Terms) > 0 {
		t.Errorf("the spare capacity contains %v", e)
	}
	before := written(double)
	for i := range joined.Groups {
		joined.Groups[i] = api.Group{}
	}
	for i := range joined.Vars {
		joined.Vars[i] = api.Variable{Bound: nat(99)}
	}
	for i := range joined.Equations {
		joined.Equations[i].Target = nat(99)
		for j := range joined.Equations[i].Terms {
			joined.Equations[i].Terms[j] = term(99, 99, 99)
		}
	}
	at[0] = 99
	if written(a) != beforeA || written(b) != beforeB || written(double) != before {
		t.Errorf("the result shares memory with an argument or another result")
	}
	double.Equations[0].Terms[0] = term(99, 99, 99)
	double.Groups[0], double.Vars[0] = api.Group{}, api.Variable{Bound: nat(99)}
	if double.Equations[4].Terms[0].Base != nat(4) || double.Groups[3] != a.Groups[0] || double.Vars[3] != a.Vars[0] {
		t.Errorf("parts of a result share memory")
	}
	_ = append(double.Equations[0].Terms, term(99, 99, 99))
	_ = append(double.Equations[3].Terms, term(99, 99, 99))
	if double.Equations[1].Terms[0] != a.Equations[1].Terms[0] || len(double.Equations[4].Terms) != 3 || double.Equations[4].Terms[0] != term(4, 3, 1) {
		t.Errorf("parts of a result share capacity")
	}
}

// P15.3: a joined statement holds for a joined witness exactly if both statements hold for their parts, and the integers are in range of the smaller bounds.
func TestConsequencesOfJoin(t *testing.T) {
	groups := []api.Group{group(23, 11), group(77, 0)}
	a := api.Statement{Groups: groups, Vars: variables(0, 6), Equations: []api.Equation{equation(0, 2, term(4, 0, 1), term(9, 1, -1)), equation(1, 4, term(2, 1, 2))}}
	b := api.Statement{Groups: groups, Vars: variables(5, 0, 3), Equations: []api.Equation{equation(0, 6, term(3, 2, 1), term(4, 1, 2)), equation(1, 8, term(2, 0, 1), term(2, 2, 1), term(2, 2, 1))}}
	for _, same := range [][][2]int{nil, {{1, 0}}, {{1, 2}}, {{0, 1}}, {{1, 2}, {0, 1}}, {{1, 0}, {1, 2}}, {{1, 2}, {0, 1}, {1, 0}}} {
		joined, at, err := Join(a, b, same)
		if err != api.OK {
			t.Fatalf("%v: error %d", same, err)
		}
		count := 0
		forAll(len(joined.Vars), func(w []api.Int) {
			part := make([]api.Int, 3)
			for j, i := range at {
				part[j] = w[i]
			}
			first, _ := Holds(a, w[:2])
			second, _ := Holds(b, part)
			for i, v := range joined.Vars {
				if v.Bound != "" && toBig(w[i].Abs).Cmp(toBig(v.Bound)) >= 0 {
					first = false
				}
			}
			holds, err := Holds(joined, w)
			if holds != (first && second) || err != api.OK {
				t.Errorf("%v with %v: got %v and error %d", w, same, holds, err)
			}
			if holds {
				count++
			}
		})
		if count == 0 {
			t.Errorf("no witness was found with %v", same)
		}
	}
}

// forAll calls a function with all lists of integers from few ones.
func forAll(length int, call func(w []api.Int)) {
	values := []int64{-3, -1, 0, 1, 2, 3, 5, 9}
	for n := range int(new(big.Int).Exp(big.NewInt(8), big.NewInt(int64(length)), nil).Int64()) {
		w := make([]api.Int, length)
		for i := range w {
			w[i] = integer.Of(values[n%8])
			n /= 8
		}
		call(w)
	}
}
