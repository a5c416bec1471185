package sigma

import (
	"domino/api"
	"domino/integer"
	"domino/linear"
	"domino/natural"
	"domino/power"
)

// Verify returns OK if a proof is accepted.
func Verify(r api.Rule, s api.Statement, p api.Proof) api.Errno {
	l, err := limitsOf(r, s)
	switch {
	case err != api.OK:
		return err
	case !hasForm(p):
		return api.ErrForm
	case len(p.First) != len(s.Equations) || len(p.Responses) != len(s.Vars):
		return api.ErrMany
	case natural.Cmp(p.Challenge, r.Challenges) >= 0 || !areBelow(s, p.Responses, l.responses):
		return api.ErrRange
	}
	for i, e := range s.Equations {
		if !power.Has(s.Groups[e.Group], p.First[i]) {
			return api.ErrGroup
		}
	}
	images, err := linear.Images(s, p.Responses)
	if err != api.OK {
		return err
	}
	for i, e := range s.Equations {
		if images[i] != expected(s.Groups[e.Group], e.Target, p.First[i], p.Challenge) {
			return api.ErrProof
		}
	}
	return api.OK
}

// hasForm reports whether all numbers of a proof are canonical.
func hasForm(p api.Proof) bool {
	for _, x := range p.First {
		if !natural.Valid(x) {
			return false
		}
	}
	return natural.Valid(p.Challenge) && areValid(p.Responses)
}

// expected returns a first message multiplied by target^c, which is the image of the responses of an accepted proof.
func expected(g api.Group, target, first, c api.Nat) api.Nat {
	x, _ := power.Product(g, []api.Nat{first, target}, []api.Int{integer.Of(1), integer.From(c)})
	return x
}
