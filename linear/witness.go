package linear

import (
	"slices"

	"domino/api"
	"domino/integer"
	"domino/natural"
	"domino/power"
)

// Holds reports whether a witness is in range and all equations hold for it.
func Holds(s api.Statement, w []api.Int) (bool, api.Errno) {
	if err := check(s, w); err != api.OK {
		return false, err
	}
	if !inRange(s, w) {
		return false, api.OK
	}
	products, err := images(s, w)
	if err != api.OK {
		return false, err
	}
	isTarget := func(e api.Equation, image api.Nat) bool { return e.Target == image }
	return slices.EqualFunc(s.Equations, products, isTarget), api.OK
}

// Images returns the products of the equations for integers in the place of a witness.
func Images(s api.Statement, w []api.Int) ([]api.Nat, api.Errno) {
	if err := check(s, w); err != api.OK {
		return nil, err
	}
	return images(s, w)
}

// check returns the error of a statement and of integers in the place of a witness.
func check(s api.Statement, w []api.Int) api.Errno {
	for _, x := range w {
		if !integer.Valid(x) {
			return api.ErrForm
		}
	}
	if err := Check(s); err != api.OK {
		return err
	}
	if len(w) != len(s.Vars) {
		return api.ErrMany
	}
	return api.OK
}

// inRange reports whether integers are in range for the variables of a valid statement.
func inRange(s api.Statement, w []api.Int) bool {
	q := order(s)
	for i, v := range s.Vars {
		if v.Bound == "" && (w[i].Neg || natural.Cmp(w[i].Abs, q) >= 0) || v.Bound != "" && natural.Cmp(w[i].Abs, v.Bound) >= 0 {
			return false
		}
	}
	return true
}

// images returns the products of the equations of a valid statement for as many integers as variables.
func images(s api.Statement, w []api.Int) ([]api.Nat, api.Errno) {
	var products []api.Nat
	for _, e := range s.Equations {
		x, err := image(s.Groups[e.Group], e.Terms, w)
		if err != api.OK {
			return nil, err
		}
		products = append(products, x)
	}
	return products, api.OK
}

// image returns the product of terms, or ErrLong if an exponent is too long.
func image(g api.Group, terms []api.Term, w []api.Int) (api.Nat, api.Errno) {
	var bases []api.Nat
	var exps []api.Int
	collect := func(t api.Term) api.Errno {
		e, err := integer.Mul(t.Coef, w[t.Var])
		bases, exps = append(bases, t.Base), append(exps, e)
		return err
	}
	for _, t := range terms {
		if err := collect(t); err != api.OK {
			return "", err
		}
	}
	return power.Product(g, bases, exps)
}
