package power

import (
	"domino/api"
	"domino/modular"
	"domino/natural"
)

// width is the number of binary digits in a group of digits.
const width = 4

// Table contains powers of one base.
type Table struct {
	modulus api.Nat // 0 only in a zero Table
	bits    int
	lists   [][]api.Nat // for each group of digits, the powers of the base for all values of these digits
}

// NewTable returns a table of powers of base for exponents of at most so many binary digits.
func NewTable(g api.Group, base api.Nat, bits int) (Table, api.Errno) {
	const most = 1024
	if err := check(g, base); err != api.OK {
		return Table{}, err
	}
	switch {
	case bits < 0 || bits > most:
		return Table{}, api.ErrRange
	case !isElement(g, base):
		return Table{}, api.ErrGroup
	}
	t := Table{modulus: g.Modulus, bits: bits}
	for range (bits + width - 1) / width {
		list := make([]api.Nat, 1<<width)
		power := natural.Of(1)
		for value := range list {
			list[value] = power
			power, _ = modular.Mul(power, base, g.Modulus)
		}
		t.lists = append(t.lists, list)
		base = power // the next group of digits weighs as much as all values of this one together, and 1 more
	}
	return t, api.OK
}

// Exp returns the power of the base with the exponent e.
func (t Table) Exp(e api.Nat) (api.Nat, api.Errno) {
	switch {
	case !natural.Valid(e):
		return "", api.ErrForm
	case t.modulus == "":
		return "", api.ErrState
	case natural.Bits(e) > t.bits:
		return "", api.ErrLong
	}
	result := natural.Of(1)
	for i, list := range t.lists {
		result, _ = modular.Mul(result, list[digits(e, i)], t.modulus)
	}
	return result, api.OK
}

// digits returns the value of the group of digits of e with the index i; the index 0 is that of the least significant ones.
func digits(e api.Nat, i int) int {
	value := 0
	for k := range width {
		if natural.Bit(e, width*i+k) {
			value += 1 << k
		}
	}
	return value
}
