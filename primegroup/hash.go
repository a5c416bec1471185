package primegroup

import (
	"strconv"
	"strings"

	"domino/api"
	"domino/hash"
	"domino/modular"
	"domino/natural"
)

// Hash returns an element that is determined by the label.
func Hash(g api.Group, label string) (api.Nat, api.Errno) {
	if !canonical(g) {
		return "", api.ErrForm
	}
	exponent, err := cofactor(g)
	if err != api.OK {
		return "", err
	}
	for counter := range api.MaxTries {
		x, _ := modular.Exp(hashed(counter, label), exponent, g.Modulus)
		if x != "" && x != natural.Of(1) {
			return x, api.OK
		}
	}
	return "", api.ErrGroup
}

// hashed returns the number whose bytes are the hash of a counter and a label.
func hashed(counter int, label string) api.Nat {
	sum := hash.Sum(strconv.Itoa(counter) + ":" + label)
	return api.Nat(strings.TrimLeft(sum, "\x00"))
}
