package power

import (
	"math"
	"math/big"
	"math/rand"
	"reflect"
	"sync"
	"testing"

	"domino/api"
	"domino/integer"
)

// table returns a table, which must be made without an error.
func table(t *testing.T, g api.Group, base api.Nat, bits int) Table {
	t.Helper()
	out, err := NewTable(g, base, bits)
	if err != api.OK {
		t.Fatalf("no table of %x for %d digits in the group %x: error %d", base, bits, g, err)
	}
	return out
}

// P13.3: all exponents of tables for few digits, and those that have more.
func TestTableSmall(t *testing.T) {
	for _, g := range []api.Group{group(23, 11), group(23, 22), group(9, 2), group(16, 15), group(9, 0), group(77, 0)} {
		for _, base := range members(g) {
			for bits := range 10 {
				table := table(t, g, base, bits)
				for e := range uint64(1100) {
					x, err := table.Exp(nat(e))
					if e < 1<<bits {
						expect(t, "Table.Exp", g, x, err, raised(g, base, integer.Of(int64(e))))
					} else {
						refused(t, "Table.Exp", g, x, err, api.ErrLong)
					}
				}
			}
		}
	}
}

// P13.3.
func TestTableLong(t *testing.T) {
	r := rand.New(rand.NewSource(7))
	for _, g := range groups() {
		for _, bits := range []int{0, 1, 3, 4, 5, 8, 63, 64, 65, 1000, 1023, 1024} {
			base := random(r, g)
			table := table(t, g, base, bits)
			limit := new(big.Int).Lsh(big.NewInt(1), uint(bits))
			list := []*big.Int{new(big.Int), new(big.Int).Sub(limit, big.NewInt(1)), new(big.Int).Rsh(limit, 1), new(big.Int).Rsh(limit, 2)}
			for range 4 {
				list = append(list, new(big.Int).Rand(r, limit))
			}
			for _, e := range list {
				if e.Cmp(limit) < 0 {
					x, err := table.Exp(fromBig(e))
					expect(t, "Table.Exp", g, x, err, raised(g, base, fromSigned(e)))
				}
			}
			if bits < 1024 {
				for _, e := range []api.Nat{fromBig(limit), ones(128)} {
					x, err := table.Exp(e)
					refused(t, "Table.Exp", g, x, err, api.ErrLong)
				}
			}
		}
	}
	x, err := table(t, second(), nat(4), 1015).Exp(threePower())
	expect(t, "a known power", second(), x, err, toBig(knownPower()))
}

// P13.3: a table can be used any number of times, also by several goroutines, and whatever happens to other tables.
func TestTableDoesNotChange(t *testing.T) {
	g := group(1081, 0)
	first := table(t, g, nat(3), 12)
	second := first
	table(t, g, nat(5), 12)
	var all sync.WaitGroup
	for range 8 {
		all.Go(func() {
			for e := range uint64(5000) {
				x, _ := first.Exp(nat(e))
				y, _ := second.Exp(nat(e))
				wanted := raised(g, nat(3), integer.Of(int64(e)))
				if e >= 4096 {
					wanted.SetInt64(0)
				}
				if x != fromBig(wanted) || y != x {
					t.Errorf("3^%d: got %x and %x", e, x, y)
					return
				}
			}
		})
	}
	all.Wait()
	if !reflect.DeepEqual(first, table(t, g, nat(3), 12)) {
		t.Errorf("the table has changed")
	}
}

// P13.3: ErrForm for all numbers comes first, then the group, then ErrRange, then the base.
func TestNewTableErrors(t *testing.T) {
	refuse := func(what string, g api.Group, base api.Nat, bits int, wanted api.Errno) {
		t.Helper()
		if table, err := NewTable(g, base, bits); !reflect.DeepEqual(table, Table{}) || err != wanted {
			t.Errorf("%s: got error %d, want %d, or a table beside it", what, err, wanted)
		}
	}
	outside := []int{-1, -4, math.MinInt, 1025, 1028, 4096, math.MaxInt}
	all := append(outside, 0, 1, 1024)
	for _, bits := range all {
		for _, bad := range invalid() {
			for _, g := range append(groups(), misformed()...) {
				refuse("the base", g, bad, bits, api.ErrForm)
			}
		}
		for _, g := range invalidGroups() {
			refuse("the group", g, nat(1), bits, api.ErrForm)
			refuse("the group and the base", g, "\x00", bits, api.ErrForm)
		}
		for _, g := range misformed() {
			refuse("the group", g, nat(1), bits, api.ErrGroup)
		}
	}
	for _, g := range groups() {
		for _, bits := range outside {
			for _, base := range []api.Nat{"", nat(1), g.Modulus} {
				refuse("the digits", g, base, bits, api.ErrRange)
			}
		}
		for _, bits := range []int{0, 1, 5, 1024} {
			for _, no := range []api.Nat{"", g.Modulus} {
				refuse("an element", g, no, bits, api.ErrGroup)
			}
		}
	}
	refuse("no square", group(23, 11), nat(5), 3, api.ErrGroup)
	refuse("no unit", group(77, 0), nat(14), 3, api.ErrGroup)
}

// P13.3: ErrForm comes before ErrState and ErrLong.
func TestTableExpErrors(t *testing.T) {
	g := group(23, 11)
	for _, bad := range invalid() {
		for _, table := range []Table{{}, table(t, g, nat(4), 0), table(t, g, nat(4), 6), table(t, g, nat(4), 1024)} {
			x, err := table.Exp(bad)
			refused(t, "the exponent", g, x, err, api.ErrForm)
		}
	}
	for _, e := range []api.Nat{"", nat(1), ones(128)} {
		x, err := Table{}.Exp(e)
		refused(t, "a zero Table", g, x, err, api.ErrState)
	}
	x, err := table(t, g, nat(4), 0).Exp(nat(1))
	refused(t, "no digits", g, x, err, api.ErrLong)
	x, err = table(t, g, nat(4), 0).Exp("")
	expect(t, "no digits", g, x, err, big.NewInt(1))
}

// P13.4.
func TestTableAgreesWithExp(t *testing.T) {
	r := rand.New(rand.NewSource(8))
	for _, g := range groups() {
		base := random(r, g)
		table := table(t, g, base, 1024)
		for range 10 {
			e := randomInt(r, 1024)
			e.Neg = false
			x, err := table.Exp(e.Abs)
			wanted, _ := Exp(g, base, e)
			expect(t, "Table.Exp", g, x, err, toBig(wanted))
		}
	}
}
