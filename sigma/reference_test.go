package sigma

import (
	"math/big"
	"slices"

	"domino/api"
	"domino/coins"
	"domino/linear"
)

// referenceOrder returns the order of a statement by the definition, nil without one.
func referenceOrder(s api.Statement) *big.Int {
	for _, g := range s.Groups {
		if g.Order != "" {
			return toBig(g.Order)
		}
	}
	return nil
}

// referenceImage returns the product of terms for integers.
func referenceImage(g api.Group, terms []api.Term, w []api.Int) api.Nat {
	n, p := toBig(g.Modulus), big.NewInt(1)
	for _, t := range terms {
		e := new(big.Int).Mul(toSigned(t.Coef), toSigned(w[t.Var]))
		x := new(big.Int).Exp(toBig(t.Base), new(big.Int).Abs(e), n)
		if e.Sign() < 0 {
			x.ModInverse(x, n)
		}
		p.Mul(p, x).Mod(p, n)
	}
	return fromBig(p)
}

// referenceImages returns the products of the equations for integers, or ErrLong.
func referenceImages(s api.Statement, w []api.Int) ([]api.Nat, api.Errno) {
	var images []api.Nat
	for _, e := range s.Equations {
		for _, t := range e.Terms {
			if new(big.Int).Mul(toSigned(t.Coef), toSigned(w[t.Var])).BitLen() > 1024 {
				return nil, api.ErrLong
			}
		}
		images = append(images, referenceImage(s.Groups[e.Group], e.Terms, w))
	}
	return images, api.OK
}

// interval is an inclusive range of integers.
type interval struct{ least, greatest *big.Int }

// contains reports whether an integer is in a range.
func (r interval) contains(x api.Int) bool {
	n := toSigned(x)
	return n.Cmp(r.least) >= 0 && n.Cmp(r.greatest) <= 0
}

// contain reports whether all integers are in their ranges.
func contain(ranges []interval, list []api.Int) bool {
	for i, r := range ranges {
		if !r.contains(list[i]) {
			return false
		}
	}
	return true
}

// around returns the integers whose magnitude is less than a bound.
func around(bound *big.Int) interval {
	greatest := new(big.Int).Sub(bound, big.NewInt(1))
	return interval{new(big.Int).Neg(greatest), greatest}
}

// ranges are those of the witness, the masks and the responses, for each variable, and the bounds of masks and responses.
type ranges struct {
	witness, masks, responses []interval
	first, second             []api.Nat
}

// referenceRanges returns the ranges by the definition, or an error.
func referenceRanges(r api.Rule, s api.Statement) (ranges, api.Errno) {
	for _, x := range []api.Nat{r.Challenges, r.Slack} {
		if len(x) > 128 || len(x) > 0 && x[0] == 0 {
			return ranges{}, api.ErrForm
		}
	}
	if err := linear.Check(s); err != api.OK {
		return ranges{}, err
	}
	c, k, q, one := toBig(r.Challenges), toBig(r.Slack), referenceOrder(s), big.NewInt(1)
	if c.Cmp(one) <= 0 || k.Cmp(one) <= 0 || slices.Contains(s.Vars, api.Variable{}) && c.Cmp(q) > 0 {
		return ranges{}, api.ErrRange
	}
	var out ranges
	for _, v := range s.Vars {
		if v.Bound == "" {
			all := interval{new(big.Int), new(big.Int).Sub(q, one)}
			out.witness, out.masks, out.responses = append(out.witness, all), append(out.masks, all), append(out.responses, all)
			out.first, out.second = append(out.first, fromBig(q)), append(out.second, fromBig(q))
			continue
		}
		b := toBig(v.Bound)
		m := new(big.Int).Mul(k, new(big.Int).Mul(c, b))
		if m.BitLen() > 1024 {
			return ranges{}, api.ErrLong
		}
		less := new(big.Int).Mul(new(big.Int).Sub(c, one), new(big.Int).Sub(b, one))
		less.Sub(m, less)
		out.witness, out.masks, out.responses = append(out.witness, around(b)), append(out.masks, around(m)), append(out.responses, around(less))
		out.first, out.second = append(out.first, fromBig(m)), append(out.second, fromBig(less))
	}
	return out, api.OK
}

// referenceCommit returns masks, first messages and a tape by the definition, or an error.
func referenceCommit(r api.Rule, s api.Statement, t api.Tape) ([]api.Int, []api.Nat, api.Tape, api.Errno) {
	l, err := referenceRanges(r, s)
	if err != api.OK {
		return nil, nil, api.Tape{}, err
	}
	var masks []api.Int
	for i, v := range s.Vars {
		var mask api.Int
		var coin api.Nat
		if v.Bound == "" {
			coin, t, err = coins.Below(t, l.first[i])
			mask = api.Int{Abs: coin}
		} else {
			mask, t, err = coins.Signed(t, l.first[i])
		}
		if err != api.OK {
			return nil, nil, api.Tape{}, err
		}
		masks = append(masks, mask)
	}
	first, err := referenceImages(s, masks)
	if err != api.OK {
		return nil, nil, api.Tape{}, err
	}
	return masks, first, t, api.OK
}

// form reports whether all integers are valid.
func form(list ...api.Int) bool {
	return !slices.ContainsFunc(list, func(x api.Int) bool {
		return len(x.Abs) > 128 || x.Abs == "" && x.Neg || x.Abs != "" && x.Abs[0] == 0
	})
}

// referenceRespond returns responses by the definition, or an error.
func referenceRespond(r api.Rule, s api.Statement, w, masks []api.Int, c api.Nat) ([]api.Int, api.Errno) {
	l, err := referenceRanges(r, s)
	switch {
	case err != api.OK:
		return nil, err
	case !form(w...) || !form(masks...) || !form(api.Int{Abs: c}):
		return nil, api.ErrForm
	case len(w) != len(s.Vars) || len(masks) != len(s.Vars):
		return nil, api.ErrMany
	case toBig(c).Cmp(toBig(r.Challenges)) >= 0 || !contain(l.witness, w) || !contain(l.masks, masks):
		return nil, api.ErrRange
	}
	var out []api.Int
	for i, v := range s.Vars {
		x := new(big.Int).Mul(toBig(c), toSigned(w[i]))
		x.Add(x, toSigned(masks[i]))
		if v.Bound == "" {
			x.Mod(x, referenceOrder(s))
		}
		out = append(out, fromSigned(x))
	}
	if !contain(l.responses, out) {
		return nil, api.ErrRetry
	}
	return out, api.OK
}

// isMember decides by the definition whether x is an element of a well-formed group.
func isMember(g api.Group, x api.Nat) bool {
	n, q, one := toBig(g.Modulus), toBig(g.Order), big.NewInt(1)
	if x == "" || toBig(x).Cmp(n) >= 0 {
		return false
	}
	if g.Order == "" {
		return new(big.Int).GCD(nil, nil, toBig(x), n).Cmp(one) == 0
	}
	return new(big.Int).Exp(toBig(x), q, n).Cmp(one) == 0
}

// referenceVerify returns the result of Verify by the definition.
func referenceVerify(r api.Rule, s api.Statement, p api.Proof) api.Errno {
	l, err := referenceRanges(r, s)
	switch {
	case err != api.OK:
		return err
	case slices.ContainsFunc(p.First, func(x api.Nat) bool { return !form(api.Int{Abs: x}) }) || !form(api.Int{Abs: p.Challenge}) || !form(p.Responses...):
		return api.ErrForm
	case len(p.First) != len(s.Equations) || len(p.Responses) != len(s.Vars):
		return api.ErrMany
	case toBig(p.Challenge).Cmp(toBig(r.Challenges)) >= 0 || !contain(l.responses, p.Responses):
		return api.ErrRange
	}
	for i, e := range s.Equations {
		if !isMember(s.Groups[e.Group], p.First[i]) {
			return api.ErrGroup
		}
	}
	images, err := referenceImages(s, p.Responses)
	if err != api.OK {
		return err
	}
	for i, e := range s.Equations {
		n := toBig(s.Groups[e.Group].Modulus)
		x := new(big.Int).Exp(toBig(e.Target), toBig(p.Challenge), n)
		x.Mul(x, toBig(p.First[i])).Mod(x, n)
		if x.Cmp(toBig(images[i])) != 0 {
			return api.ErrProof
		}
	}
	return api.OK
}

// referenceProve returns the result of Prove by the definition.
func referenceProve(r api.Rule, s api.Statement, w []api.Int, c api.Nat, t api.Tape) (api.Proof, api.Tape, api.Errno) {
	l, err := referenceRanges(r, s)
	switch {
	case err != api.OK:
		return api.Proof{}, api.Tape{}, err
	case !form(w...) || !form(api.Int{Abs: c}):
		return api.Proof{}, api.Tape{}, api.ErrForm
	case len(w) != len(s.Vars):
		return api.Proof{}, api.Tape{}, api.ErrMany
	case toBig(c).Cmp(toBig(r.Challenges)) >= 0 || !contain(l.witness, w):
		return api.Proof{}, api.Tape{}, api.ErrRange
	}
	images, err := referenceImages(s, w)
	if err != api.OK {
		return api.Proof{}, api.Tape{}, err
	}
	for i, e := range s.Equations {
		if images[i] != e.Target {
			return api.Proof{}, api.Tape{}, api.ErrFalse
		}
	}
	for range 64 {
		masks, first, behind, err := referenceCommit(r, s, t)
		if err != api.OK {
			return api.Proof{}, api.Tape{}, err
		}
		t = behind
		if responses, err := referenceRespond(r, s, w, masks, c); err == api.OK {
			return api.Proof{First: first, Challenge: c, Responses: responses}, t, api.OK
		}
	}
	return api.Proof{}, api.Tape{}, api.ErrRetry
}
