package params

import (
	"domino/api"
	"domino/coins"
	"domino/natural"
)

// attempts is the greatest number of attempts of a search.
const attempts = 65536

// start returns a copy of the tape with which a search for a number with so many bits starts, or the error of the tape or the bits.
func start(bits, least, most int, t api.Tape) (api.Tape, api.Errno) {
	// Drawing no coins copies a tape, and fails exactly if it is not well-formed.
	_, copied, err := coins.Many(t, natural.Of(1), 0)
	switch {
	case err != api.OK:
		return api.Tape{}, err
	case bits < least || bits > most:
		return api.Tape{}, api.ErrRange
	}
	return copied, api.OK
}

// search draws coins below n, one for each attempt, until an attempt succeeds, and returns the number that it found and the tape behind the coins.
func search(t api.Tape, n api.Nat, attempt func(coin api.Nat) (api.Nat, bool)) (api.Nat, api.Tape, api.Errno) {
	for range attempts {
		coin, err := next(t, n)
		if err != api.OK {
			return "", api.Tape{}, err
		}
		t.At++
		if x, ok := attempt(coin); ok {
			return x, t, api.OK
		}
	}
	return "", api.Tape{}, api.ErrPrime
}

// next returns the next coin below n of a well-formed tape.
func next(t api.Tape, n api.Nat) (api.Nat, api.Errno) {
	// Below copies all values of its tape, which are too many to be copied for each attempt, so it gets one with only the value that it draws.
	if t.At < len(t.Values) {
		t = coins.Values(t.Values[t.At])
	} else {
		t.Values = nil
	}
	coin, _, err := coins.Below(t, n)
	return coin, err
}
