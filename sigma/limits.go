package sigma

import (
	"domino/api"
	"domino/linear"
	"domino/natural"
)

// The kinds of variables.
const (
	residue = 0 // a number modulo the order
	bounded = 1 // an integer with a bound
)

// limits are, for each variable, what the magnitudes of its numbers are less than.
type limits struct{ witness, masks, responses []api.Nat }

// limitsOf returns the limits of the variables of a statement.
func limitsOf(r api.Rule, s api.Statement) (limits, api.Errno) {
	if err := check(r, s); err != api.OK {
		return limits{}, err
	}
	calculate := [2]func(r api.Rule, value api.Nat) (api.Nat, api.Nat, api.Errno){residue: limitsOfResidue, bounded: limitsOfBounded}
	var l limits
	for _, v := range s.Vars {
		value := [2]api.Nat{residue: order(s), bounded: v.Bound}[kind(v)]
		mask, response, err := calculate[kind(v)](r, value)
		if err != api.OK {
			return limits{}, err
		}
		l.witness, l.masks, l.responses = append(l.witness, value), append(l.masks, mask), append(l.responses, response)
	}
	return l, api.OK
}

// check returns the error of a rule and a statement, apart from that of their limits.
func check(r api.Rule, s api.Statement) api.Errno {
	if !natural.Valid(r.Challenges) || !natural.Valid(r.Slack) {
		return api.ErrForm
	}
	if err := linear.Check(s); err != api.OK {
		return err
	}
	if natural.Cmp(r.Challenges, natural.Of(2)) < 0 || natural.Cmp(r.Slack, natural.Of(2)) < 0 {
		return api.ErrRange
	}
	for _, v := range s.Vars {
		if kind(v) == residue && natural.Cmp(r.Challenges, order(s)) > 0 {
			return api.ErrRange
		}
	}
	return api.OK
}

// limitsOfResidue returns the limits of the masks and the responses of a number modulo q.
func limitsOfResidue(_ api.Rule, q api.Nat) (api.Nat, api.Nat, api.Errno) {
	return q, q, api.OK
}

// limitsOfBounded returns the limits of the masks and the responses of an integer whose magnitude is less than b.
func limitsOfBounded(r api.Rule, b api.Nat) (api.Nat, api.Nat, api.Errno) {
	products, err := natural.Mul(r.Challenges, b)
	if err != api.OK {
		return "", "", err
	}
	mask, err := natural.Mul(r.Slack, products)
	if err != api.OK {
		return "", "", err
	}
	challenge, _ := natural.Sub(r.Challenges, natural.Of(1))
	value, _ := natural.Sub(b, natural.Of(1))
	greatest, _ := natural.Mul(challenge, value)
	response, err := natural.Sub(mask, greatest)
	return mask, response, err
}

// kind returns the kind of a variable.
func kind(v api.Variable) int {
	if v.Bound == "" {
		return residue
	}
	return bounded
}

// order returns the order of a statement, or 0 if no group has an Order.
func order(s api.Statement) api.Nat {
	for _, g := range s.Groups {
		if g.Order != "" {
			return g.Order
		}
	}
	return ""
}

// isBelow reports whether an integer is below a limit for a variable, and not negative for a number modulo the order.
func isBelow(v api.Variable, x api.Int, limit api.Nat) bool {
	return natural.Cmp(x.Abs, limit) < 0 && !(kind(v) == residue && x.Neg)
}

// areBelow reports whether as many integers as variables are below their limits.
func areBelow(s api.Statement, list []api.Int, limits []api.Nat) bool {
	for i, v := range s.Vars {
		if !isBelow(v, list[i], limits[i]) {
			return false
		}
	}
	return true
}
