package coins

import (
	"math"
	"math/big"
	"slices"
	"strings"
	"testing"

	"domino/api"
	"domino/integer"
)

// P6.1.
func TestValues(t *testing.T) {
	for _, l := range [][]api.Nat{nil, nats(0), nats(5, 9), nats(9, 5, 9, 0), {ones(128), "", "\x01"}, invalid()} {
		if got := Values(l...); !same(got, api.Tape{Values: l}) {
			t.Errorf("Values of %x: got %x", l, got)
		}
	}
}

// P6.1: the values are copied.
func TestValuesAreKept(t *testing.T) {
	l := append(make([]api.Nat, 0, 10), nats(1, 2, 3)...)
	tape := Values(l...)
	l[0] = nat(7)
	_ = append(tape.Values, nat(8))
	if !same(tape, api.Tape{Values: nats(1, 2, 3)}) || l[:4][3] != "" {
		t.Errorf("the tape %x and the list %x share memory", tape, l[:4])
	}
}

// P6.1.
func TestSeed(t *testing.T) {
	for _, s := range append(seeds(), "") {
		if got := Seed(s); !same(got, api.Tape{Seed: s}) {
			t.Errorf("Seed of %q: got %x", s, got)
		}
	}
}

// P6.1.
func TestLeft(t *testing.T) {
	for _, c := range []struct {
		tape   api.Tape
		wanted int
	}{
		{api.Tape{}, 0}, {Seed("a"), 0}, {Values(nats(1, 2, 3)...), 3}, {api.Tape{Values: nats(1, 2, 3), At: 1}, 2},
		{api.Tape{Values: nats(1, 2, 3), Seed: "a", At: 2}, 1}, {api.Tape{Values: nats(1, 2, 3), At: 3}, 0}, {api.Tape{Values: nats(1, 2, 3), Seed: "a", At: 4}, 0},
		{api.Tape{Values: nats(1, 2, 3), At: math.MaxInt32}, 0}, {api.Tape{At: 5}, 0}, {Values(make([]api.Nat, 5000)...), 5000},
	} {
		if got := Left(c.tape); got != c.wanted {
			t.Errorf("Left of %x: got %d, want %d", c.tape, got, c.wanted)
		}
	}
	for _, tape := range malformed() {
		if got := Left(tape); got != 0 {
			t.Errorf("Left of %.40x: got %d, want 0", tape, got)
		}
	}
}

// P6.2: explicit values.
func TestBelowOfValues(t *testing.T) {
	for _, n := range bounds() {
		most := fromBig(new(big.Int).Sub(toBig(n), big.NewInt(1)))
		for _, tape := range []api.Tape{
			Values(most), Values("", most), Values(most, n), {Values: []api.Nat{n, most, n}, At: 1}, {Values: []api.Nat{n, n, most}, Seed: "a", At: 2}, {Values: []api.Nat{""}},
		} {
			x, next, err := Below(tape, n)
			expect(t, "Below", tape, x, next, err, tape.Values[tape.At])
		}
		for _, tape := range []api.Tape{Values(n), Values(n, ""), Values(ones(128)), {Values: []api.Nat{"", n, ""}, At: 1}, {Values: []api.Nat{n}, Seed: "a"}} {
			refused(t, tape, n, toHalf(n), api.ErrRange)
		}
	}
}

// toHalf returns the greatest bound for which Signed draws below at most n.
func toHalf(n api.Nat) api.Nat {
	x := new(big.Int).Add(toBig(n), big.NewInt(1))
	return fromBig(x.Rsh(x, 1))
}

// P6.2: coins from seeds.
func TestBelowOfSeeds(t *testing.T) {
	for _, seed := range seeds() {
		for _, n := range bounds() {
			for _, at := range []int{0, 1, 9, 10, 12345, math.MaxInt32 - 1} {
				tape := api.Tape{Seed: seed, At: at}
				x, next, err := Below(tape, n)
				expect(t, "Below", tape, x, next, err, reference(seed, at, n))
			}
		}
	}
}

// P6.2: coins that were calculated elsewhere.
func TestBelowOfKnownCoins(t *testing.T) {
	for _, c := range []struct {
		seed   string
		n      uint64
		wanted []uint64
	}{
		{"a seed", 1, []uint64{0, 0, 0, 0, 0, 0}}, {"a seed", 2, []uint64{1, 1, 1, 1, 0, 0}}, {"a seed", 10, []uint64{9, 5, 6, 9, 2, 8}},
		{"a seed", 1000, []uint64{370, 902, 615, 495, 563, 18}}, {"a seed", 65536, []uint64{9466, 21972, 26379, 42037, 13106, 4837}},
		{"\x00", 10, []uint64{5, 5, 8, 6, 6, 6}}, {"\x00", 65536, []uint64{16434, 61119, 57856, 12887, 1252, 50451}},
		{strings.Repeat("x", 100), 1000, []uint64{153, 781, 315, 675, 159, 945}}, {strings.Repeat("x", 100), 65536, []uint64{39214, 63852, 853, 41760, 40888, 48352}},
	} {
		for at, wanted := range c.wanted {
			tape := api.Tape{Seed: c.seed, At: at}
			x, next, err := Below(tape, nat(c.n))
			expect(t, "Below", tape, x, next, err, nat(wanted))
		}
	}
	tape := api.Tape{Seed: "a seed", At: 7}
	x, next, err := Below(tape, power(300, 0))
	wanted, _ := new(big.Int).SetString("cefe11ac52e858fe79c2bf1fcdfd01aa05b5e16622fd74c6915e37a9788c91f88153cdb0215", 16)
	expect(t, "Below", tape, x, next, err, fromBig(wanted))
	tape.At = math.MaxInt32 - 1
	x, next, err = Below(tape, power(64, 0))
	expect(t, "Below", tape, x, next, err, nat(0xb901ad9d3605413a))
}

// P6.2: the seed begins where the values end.
func TestBelowBehindTheValues(t *testing.T) {
	tape := api.Tape{Values: nats(1, 2), Seed: "a"}
	for _, wanted := range []api.Nat{nat(1), nat(2), reference("a", 2, nat(1000)), reference("a", 3, nat(1000))} {
		x, next, err := Below(tape, nat(1000))
		expect(t, "Below", tape, x, next, err, wanted)
		tape = next
	}
}

// P6.2.
func TestUsedUpTapes(t *testing.T) {
	for _, tape := range []api.Tape{
		{}, {At: 1}, {Values: nats(1), At: 1}, {Values: nats(1), At: 2}, {At: math.MaxInt32}, {Seed: "a", At: math.MaxInt32}, {Values: nats(1), Seed: "a", At: math.MaxInt32},
	} {
		for _, n := range []api.Nat{nat(1), nat(10), power(1023, 0)} {
			refused(t, tape, n, n, api.ErrCoins)
		}
	}
}

// P6.2: such coins practically never occur, so the candidates come from the test.
func TestFirstBelow(t *testing.T) {
	list := func(first ...api.Nat) []api.Nat {
		l := slices.Repeat([]api.Nat{nat(10)}, attempts)
		copy(l, first)
		return l
	}
	last := list()
	last[attempts-1] = nat(3)
	for _, c := range []struct {
		candidates []api.Nat
		wanted     api.Nat
		err        api.Errno
	}{
		{list(nat(4), nat(5)), nat(4), api.OK}, {list(nat(10), nat(11), nat(9), nat(8)), nat(9), api.OK}, {list(ones(128), ""), "", api.OK},
		{last, nat(3), api.OK}, {list(), "", api.ErrCoins}, {nil, "", api.ErrCoins},
	} {
		if got, err := firstBelow(nat(10), slices.Values(c.candidates)); got != c.wanted || err != c.err {
			t.Errorf("first of %x below 10: got %x and error %d, want %x and error %d", c.candidates, got, err, c.wanted, c.err)
		}
	}
}

// P6.2: there are 256 candidates, and those who yield can be left before their end.
func TestCandidates(t *testing.T) {
	all := slices.Collect(candidates("a", 3, 20))
	if len(all) != 256 {
		t.Fatalf("got %d candidates, want 256", len(all))
	}
	for a := range all {
		if all[a] != candidate("a", 3, a, 20) || toBig(all[a]).BitLen() > 20 {
			t.Errorf("wrong candidate %d: %x", a, all[a])
		}
	}
	n := 0
	for range candidates("a", 3, 20) {
		if n++; n == 5 {
			break
		}
	}
	for range blocks("a", 3, 0) {
		if n++; n == 10 {
			break
		}
	}
	if n != 10 {
		t.Errorf("got %d elements, want 10", n)
	}
}

// P6.2: ErrForm comes first, then ErrZero, then ErrLong and ErrMany, then the errors of coins.
func TestOrderOfErrors(t *testing.T) {
	for _, tape := range malformed() {
		for _, n := range []api.Nat{"", "\x01", ones(128), "\x00"} {
			refused(t, tape, n, n, api.ErrForm)
		}
		refusedMany(t, tape, "\x05", -1, api.ErrForm)
		refusedMany(t, tape, "\x05", 0, api.ErrForm)
	}
	for _, tape := range []api.Tape{{}, Seed("a"), Values(nats(5)...), {At: math.MaxInt32}} {
		for _, bad := range invalid() {
			refused(t, tape, bad, bad, api.ErrForm)
			refusedMany(t, tape, bad, -1, api.ErrForm)
		}
		refused(t, tape, "", "", api.ErrZero)
		refusedMany(t, tape, "", 0, api.ErrZero)
		refusedMany(t, tape, "", -1, api.ErrZero)
		refusedMany(t, tape, "", api.MaxLog+1, api.ErrZero)
		for _, count := range []int{-1, math.MinInt, api.MaxLog + 1, math.MaxInt} {
			refusedMany(t, tape, "\x01", count, api.ErrMany)
		}
		for _, bound := range []api.Nat{power(1023, 1), power(1023, 2), ones(128)} {
			if x, next, err := Signed(tape, bound); x != (api.Int{}) || !same(next, api.Tape{}) || err != api.ErrLong {
				t.Errorf("Signed from %x, bound %x: got %v, %x and error %d, want ErrLong", tape, bound, x, next, err)
			}
		}
	}
}

// P6.2 and P6.3: the values from 0 to 2 b - 2 correspond to the integers from -(b - 1) to b - 1.
func TestSignedOfValues(t *testing.T) {
	for b := int64(1); b < 40; b++ {
		for v := range 2*b - 1 {
			tape := Values(nat(uint64(v)))
			x, next, err := Signed(tape, nat(uint64(b)))
			if x != integer.Of(v-(b-1)) || !same(next, api.Tape{Values: tape.Values, At: 1}) || err != api.OK {
				t.Fatalf("Signed of %d for the bound %d: got %v, %x and error %d", v, b, x, next, err)
			}
		}
		x, next, err := Signed(Values(nat(uint64(2*b-1))), nat(uint64(b)))
		if x != (api.Int{}) || !same(next, api.Tape{}) || err != api.ErrRange {
			t.Errorf("Signed of %d for the bound %d: got %v, %x and error %d, want ErrRange", 2*b-1, b, x, next, err)
		}
	}
}

// P6.2: the greatest bound that is not too long.
func TestSignedOfLongBounds(t *testing.T) {
	bound := power(1023, 0)
	most := power(1023, -1)
	for _, c := range []struct {
		value  api.Nat
		wanted api.Int
	}{
		{"", api.Int{Neg: true, Abs: most}}, {"\x01", api.Int{Neg: true, Abs: power(1023, -2)}}, {most, api.Int{}}, {bound, integer.Of(1)},
		{ones(127) + "\xfd", api.Int{Abs: power(1023, -2)}}, {ones(127) + "\xfe", api.Int{Abs: most}},
	} {
		if x, _, err := Signed(Values(c.value), bound); x != c.wanted || err != api.OK {
			t.Errorf("Signed of %x: got %v and error %d, want %v", c.value, x, err, c.wanted)
		}
	}
	if _, _, err := Signed(Values(ones(128)), bound); err != api.ErrRange {
		t.Errorf("Signed of 2^1024 - 1: got error %d, want ErrRange", err)
	}
}

// P6.2: an integer from a seed is a coin below 2 bound - 1, minus (bound - 1).
func TestSignedOfSeeds(t *testing.T) {
	for _, seed := range seeds() {
		for _, bound := range bounds() {
			if toBig(bound).Cmp(toBig(power(1023, 0))) > 0 {
				continue
			}
			most := new(big.Int).Sub(toBig(bound), big.NewInt(1))
			n := fromBig(new(big.Int).Add(toBig(bound), most))
			tape := api.Tape{Values: nats(3), Seed: seed, At: 4}
			x, next, err := Signed(tape, bound)
			wanted := new(big.Int).Sub(toBig(reference(seed, 4, n)), most)
			if x != (api.Int{Neg: wanted.Sign() < 0, Abs: fromBig(wanted)}) || !same(next, api.Tape{Values: nats(3), Seed: seed, At: 5}) || err != api.OK {
				t.Fatalf("Signed from %x, bound %x: got %v, %x and error %d, want %v", tape, bound, x, next, err, wanted)
			}
		}
	}
}

// P6.2 and P6.3: Many returns what repeated calls of Below return.
func TestMany(t *testing.T) {
	for _, start := range []api.Tape{
		{}, Values(nats(5, 9, 0)...), Values(nats(5, 10, 0)...), {Values: nats(20, 1, 2), At: 1}, Seed("a seed"), {Values: nats(1, 2), Seed: "b"}, {Values: nats(1, 12), Seed: "b"},
		{Seed: "a", At: math.MaxInt32 - 3}, {Values: nats(1), At: 2},
	} {
		for count := range 7 {
			tape, wanted, wantedErr := start, []api.Nat(nil), api.OK
			for range count {
				x, next, err := Below(tape, nat(10))
				if err != api.OK {
					next, wanted, wantedErr = api.Tape{}, nil, err
				} else {
					wanted = append(wanted, x)
				}
				tape = next
				if err != api.OK {
					break
				}
			}
			got, next, err := Many(start, nat(10), count)
			if !slices.Equal(got, wanted) || !same(next, tape) || err != wantedErr {
				t.Errorf("Many of %d from %x: got %x, %x and error %d, want %x, %x and error %d", count, start, got, next, err, wanted, tape, wantedErr)
			}
		}
	}
}

// P6.2.
func TestManyOfLimits(t *testing.T) {
	l, next, err := Many(Seed("a"), nat(7), api.MaxLog)
	if len(l) != api.MaxLog || !same(next, api.Tape{Seed: "a", At: api.MaxLog}) || err != api.OK {
		t.Errorf("Many of MaxLog: got %d coins, the tape %x and error %d", len(l), next, err)
	}
	for at, x := range l {
		if x != reference("a", at, nat(7)) {
			t.Fatalf("coin %d of many: got %x", at, x)
		}
	}
	for _, tape := range []api.Tape{{}, {At: math.MaxInt32}, {Seed: "a", At: math.MaxInt32}, Values(nats(9)...)} {
		if l, next, err := Many(tape, nat(7), 0); len(l) != 0 || !same(next, tape) || err != api.OK {
			t.Errorf("Many of 0 from %x: got %x, %x and error %d", tape, l, next, err)
		}
	}
	if l, next, err := Many(Values(slices.Repeat(nats(6), 4096)...), nat(7), 4096); len(l) != 4096 || Left(next) != 0 || err != api.OK {
		t.Errorf("Many of 4096 values: got %d coins, %d left and error %d", len(l), Left(next), err)
	}
	refusedMany(t, Seed("a"), nat(7), 4097, api.ErrMany)
	l, next, err = Many(api.Tape{Seed: "a", At: math.MaxInt32 - 2}, nat(1), 2)
	if len(l) != 2 || next.At != math.MaxInt32 || err != api.OK {
		t.Errorf("the last two coins of a seed: got %x, %x and error %d", l, next, err)
	}
	refusedMany(t, api.Tape{Seed: "a", At: math.MaxInt32 - 2}, nat(1), 3, api.ErrCoins)
}

// P6.3: coins are below their bounds, and a tape yields the same coins again.
func TestCoinsAreBelowAndTheSameAgain(t *testing.T) {
	for _, seed := range seeds() {
		for _, n := range bounds() {
			first, _, err := Many(Seed(seed), n, 20)
			again, _, errAgain := Many(Seed(seed), n, 20)
			if err != api.OK || errAgain != api.OK || !slices.Equal(first, again) {
				t.Fatalf("seed %q, bound %x: the coins differ, or error %d", seed, n, err)
			}
			for _, x := range first {
				if toBig(x).Cmp(toBig(n)) >= 0 {
					t.Fatalf("seed %q: the coin %x is not below %x", seed, x, n)
				}
			}
		}
	}
}

// P6.3: every coin below a small bound occurs.
func TestAllCoinsOccur(t *testing.T) {
	for n := uint64(1); n < 20; n++ {
		seen := map[api.Nat]bool{}
		l, _, _ := Many(Seed("all"), nat(n), 1000)
		for _, x := range l {
			seen[x] = true
		}
		if len(seen) != int(n) {
			t.Errorf("%d different coins below %d", len(seen), n)
		}
	}
}

// P6.3: coins from a seed depend on Seed and At only.
func TestCoinsOfSeedsDoNotDependOnValues(t *testing.T) {
	wanted, _, _ := Many(api.Tape{Seed: "a", At: 3}, nat(1000), 10)
	for _, values := range [][]api.Nat{nats(1), nats(1, 2), nats(1, 2, 3), {ones(128), "", ""}} {
		got, _, err := Many(api.Tape{Values: values, Seed: "a", At: 3}, nat(1000), 10)
		if !slices.Equal(got, wanted) || err != api.OK {
			t.Errorf("behind %x: got %x and error %d, want %x", values, got, err, wanted)
		}
	}
	other, _, _ := Many(api.Tape{Seed: "b", At: 3}, nat(1000), 10)
	if slices.Equal(other, wanted) {
		t.Error("another seed yields the same coins")
	}
}

// P6.2: the tape behind a coin has values of its own.
func TestTapesShareNoMemory(t *testing.T) {
	for what, draw := range map[string]func(api.Tape) api.Tape{
		"Below":  func(tape api.Tape) api.Tape { _, next, _ := Below(tape, nat(10)); return next },
		"Signed": func(tape api.Tape) api.Tape { _, next, _ := Signed(tape, nat(10)); return next },
		"Many":   func(tape api.Tape) api.Tape { _, next, _ := Many(tape, nat(10), 2); return next },
		"none":   func(tape api.Tape) api.Tape { _, next, _ := Many(tape, nat(10), 0); return next },
	} {
		tape := api.Tape{Values: append(make([]api.Nat, 0, 8), nats(1, 2, 3)...), Seed: "a"}
		next := draw(tape)
		next.Values[2] = nat(7)
		_ = append(next.Values, nat(8))
		if !slices.Equal(tape.Values[:4], append(nats(1, 2, 3), "")) || tape.At != 0 || tape.Seed != "a" {
			t.Errorf("%s: the argument has changed to %x", what, tape)
		}
		tape.Values[0] = nat(9)
		if next.Values[0] != nat(1) {
			t.Errorf("%s: the tape behind the coins has changed", what)
		}
	}
	tape := Values(nats(1, 2, 3)...)
	l, next, _ := Many(tape, nat(10), 3)
	l[0] = nat(7)
	if !slices.Equal(next.Values, nats(1, 2, 3)) || !slices.Equal(tape.Values, nats(1, 2, 3)) {
		t.Error("the coins share memory with a tape")
	}
}

// P6.2: the examples of the document.
func TestExamples(t *testing.T) {
	tape := Values(nats(5, 9)...)
	x, next, err := Below(tape, nat(10))
	expect(t, "Below", tape, x, next, err, nat(5))
	if _, _, err := Below(tape, nat(5)); err != api.ErrRange {
		t.Errorf("5 below 5: got error %d", err)
	}
	for value, wanted := range map[uint64]int64{0: -2, 4: 2} {
		if got, _, err := Signed(Values(nat(value)), nat(3)); got != integer.Of(wanted) || err != api.OK {
			t.Errorf("Signed of %d for the bound 3: got %v and error %d", value, got, err)
		}
	}
	for _, seed := range seeds() {
		x, next, err := Below(Seed(seed), nat(1))
		expect(t, "Below", Seed(seed), x, next, err, "")
	}
}
