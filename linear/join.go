package linear

import (
	"slices"

	"domino/api"
	"domino/natural"
)

// Join returns the conjunction of two statements, and for each variable of b its index there; a pair i, j of same says that variable j of b is variable i of a.
func Join(a, b api.Statement, same [][2]int) (api.Statement, []int, api.Errno) {
	if err := checkParts(a, b, same); err != api.OK {
		return api.Statement{}, nil, err
	}
	vars, at := joinVars(a.Vars, b.Vars, same)
	joined := api.Statement{Groups: slices.Concat(a.Groups, b.Groups), Vars: vars}
	for _, e := range a.Equations {
		e.Terms = slices.Clone(e.Terms)
		joined.Equations = append(joined.Equations, e)
	}
	for _, e := range b.Equations {
		e.Group += len(a.Groups)
		e.Terms = slices.Clone(e.Terms)
		for i, t := range e.Terms {
			e.Terms[i].Var = at[t.Var]
		}
		joined.Equations = append(joined.Equations, e)
	}
	// The numbers, indices and elements are those of a and b.
	switch {
	case !isShort(joined):
		return api.Statement{}, nil, api.ErrMany
	case !hasTypes(joined):
		return api.Statement{}, nil, api.ErrType
	}
	return joined, at, api.OK
}

// checkParts returns the error of two statements and of the pairs of their variables.
func checkParts(a, b api.Statement, same [][2]int) api.Errno {
	if !hasForm(a) || !hasForm(b) {
		return api.ErrForm
	}
	if err := Check(a); err != api.OK {
		return err
	}
	if err := Check(b); err != api.OK {
		return err
	}
	return checkPairs(a.Vars, b.Vars, same)
}

// checkPairs returns the error of pairs of variables.
func checkPairs(a, b []api.Variable, same [][2]int) api.Errno {
	for _, pair := range same {
		if !isIndex(pair[0], len(a)) || !isIndex(pair[1], len(b)) {
			return api.ErrRange
		}
	}
	named := make([]bool, len(b))
	for _, pair := range same {
		if named[pair[1]] {
			return api.ErrTwice
		}
		named[pair[1]] = true
	}
	for _, pair := range same {
		if (a[pair[0]].Bound == "") != (b[pair[1]].Bound == "") {
			return api.ErrType
		}
	}
	return api.OK
}

// joinVars returns the variables of a joined statement, and the index of each variable of b among them.
func joinVars(a, b []api.Variable, same [][2]int) ([]api.Variable, []int) {
	vars := slices.Clone(a)
	at := slices.Repeat([]int{-1}, len(b))
	for _, pair := range same {
		i, j := pair[0], pair[1]
		at[j] = i
		// Several variables of b may be the same variable of a.
		if natural.Cmp(b[j].Bound, vars[i].Bound) < 0 {
			vars[i] = b[j]
		}
	}
	for j, v := range b {
		if at[j] < 0 {
			at[j] = len(vars)
			vars = append(vars, v)
		}
	}
	return vars, at
}
