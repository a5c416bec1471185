package pedersen

import (
	"domino/api"
	"domino/coins"
	"domino/integer"
	"domino/natural"
)

// Sum returns the opening of the product of two commitments.
func Sum(k api.Pedersen, a, b api.Opening) (api.Opening, api.Errno) {
	return combine(k, integer.Add, a, b)
}

// Times returns the opening of a power of a commitment.
func Times(k api.Pedersen, o api.Opening, by api.Int) (api.Opening, api.Errno) {
	return combine(k, integer.Mul, o, api.Opening{Value: by, Random: by})
}

// Random draws the randomness of a commitment to m, and returns the commitment, its opening and the tape behind the coin.
func Random(k api.Pedersen, m api.Int, t api.Tape) (api.Nat, api.Opening, api.Tape, api.Errno) {
	// No coins are drawn from a tape exactly if it is well-formed.
	if _, _, err := coins.Many(t, natural.Of(1), 0); err != api.OK {
		return "", api.Opening{}, api.Tape{}, api.ErrForm
	}
	if err := check(k, nil, m); err != api.OK {
		return "", api.Opening{}, api.Tape{}, err
	}
	bound := k.Group.Order
	if bound == "" {
		bound = k.Group.Modulus
	}
	r, behind, err := coins.Below(t, bound)
	if err != api.OK {
		return "", api.Opening{}, api.Tape{}, err
	}
	o := reduced(k, m, integer.From(r))
	c, err := Commit(k, o)
	return c, o, behind, err
}

// combine returns the opening that a calculation yields with the values and with the randomness of two openings, reduced.
func combine(k api.Pedersen, calculate func(a, b api.Int) (api.Int, api.Errno), a, b api.Opening) (api.Opening, api.Errno) {
	if err := check(k, nil, a.Value, a.Random, b.Value, b.Random); err != api.OK {
		return api.Opening{}, err
	}
	value, err := calculate(a.Value, b.Value)
	if err != api.OK {
		return api.Opening{}, err
	}
	random, err := calculate(a.Random, b.Random)
	if err != api.OK {
		return api.Opening{}, err
	}
	return reduced(k, value, random), api.OK
}

// reduced returns the opening with a value and randomness, reduced for a well-formed key.
func reduced(k api.Pedersen, value, random api.Int) api.Opening {
	reduce := func(a api.Int) api.Int {
		if k.Group.Order == "" {
			return a
		}
		rest, _ := integer.Mod(a, k.Group.Order)
		return integer.From(rest)
	}
	return api.Opening{Value: reduce(value), Random: reduce(random)}
}
