package params

import (
	"math/big"
	"testing"

	"domino/api"
	"domino/coins"
	"domino/natural"
)

// small returns parameters in small groups; all their bounds are as small or as great as they may be.
func small() api.Params {
	return api.Params{
		Rule:   api.Rule{Challenges: nat(23), Slack: nat(2)},
		Main:   api.Pedersen{Group: api.Group{Modulus: nat(47), Order: nat(23)}, G: nat(4), H: nat(2)},
		Whole:  api.Pedersen{Group: api.Group{Modulus: nat(77)}, G: nat(4), H: nat(9)},
		Secret: nat(23), Attr: nat(2), Handle: nat(2), ExpLow: nat(2), ExpSize: nat(2), Blind: nat(2), Mask: nat(2),
	}
}

// long returns parameters with groups and bounds of many bytes.
func long() api.Params {
	q := nat(965090083163) // 40 bits
	return api.Params{
		Rule:   api.Rule{Challenges: nat(1 << 39), Slack: ones(128)},
		Main:   api.Pedersen{Group: api.Group{Modulus: nat(13511261164283), Order: q}, G: element(3), H: element(5)},
		Whole:  api.Pedersen{Group: api.Group{Modulus: ones(128)}, G: power(1023, 0), H: ones(127) + "\xfe"},
		Secret: q, Attr: fromBig(new(big.Int).Div(toBig(q), big.NewInt(8))), Handle: ones(20), ExpLow: ones(40), ExpSize: ones(30), Blind: ones(64), Mask: ones(64),
	}
}

// element returns an element of Main of the long parameters, whose Modulus is 14 times the Order plus 1.
func element(x int64) api.Nat {
	return fromBig(new(big.Int).Exp(big.NewInt(x), big.NewInt(14), big.NewInt(13511261164283)))
}

// edited returns parameters after a change.
func edited(p api.Params, change func(p *api.Params)) api.Params {
	change(&p)
	return p
}

// numbers returns all numbers of parameters, so that they can be changed.
func numbers(p *api.Params) []*api.Nat {
	return append([]*api.Nat{
		&p.Main.Group.Modulus, &p.Main.Group.Order, &p.Main.G, &p.Main.H,
		&p.Whole.Group.Modulus, &p.Whole.Group.Order, &p.Whole.G, &p.Whole.H,
	}, bounds(p)...)
}

// bounds returns the numbers of parameters that do not belong to groups, so that they can be changed.
func bounds(p *api.Params) []*api.Nat {
	return []*api.Nat{&p.Rule.Challenges, &p.Rule.Slack, &p.Secret, &p.Attr, &p.Handle, &p.ExpLow, &p.ExpSize, &p.Blind, &p.Mask}
}

// checked checks the error of Check, and that Sizes returns it, too, beside zero values.
func checked(t *testing.T, what string, p api.Params, wanted api.Errno) {
	t.Helper()
	if err := Check(p); err != wanted {
		t.Errorf("%s: Check returns error %d, want %d", what, err, wanted)
	}
	if wanted == api.OK {
		sized(t, what, p)
		return
	}
	if v, w, err := Sizes(p); v != "" || w != "" || err != wanted {
		t.Errorf("%s: Sizes returns %x, %x and error %d, want error %d", what, v, w, err, wanted)
	}
}

// sized checks that Sizes returns the sizes of valid parameters, or ErrLong.
func sized(t *testing.T, what string, p api.Params) {
	t.Helper()
	v := new(big.Int).Add(toBig(p.ExpLow), toBig(p.ExpSize))
	v.Mul(v, toBig(p.Mask)).Add(v, toBig(p.Blind)).Add(v, toBig(p.Blind))
	w := new(big.Int).Mul(toBig(p.Handle), toBig(p.Mask))
	wantedV, wantedW, wanted := fromBig(v), fromBig(w), api.OK
	if len(wantedV) > api.MaxBytes || len(wantedW) > api.MaxBytes {
		wantedV, wantedW, wanted = "", "", api.ErrLong
	}
	if gotV, gotW, err := Sizes(p); gotV != wantedV || gotW != wantedW || err != wanted {
		t.Errorf("%s: Sizes returns %x, %x and error %d, want %x, %x and error %d", what, gotV, gotW, err, wantedV, wantedW, wanted)
	}
}

// P11.3.
func TestCheckOfValidParameters(t *testing.T) {
	checked(t, "small", small(), api.OK)
	checked(t, "long", long(), api.OK)
	for what, change := range map[string]func(p *api.Params){
		"the smallest bounds": func(p *api.Params) { p.Rule.Challenges, p.Secret = nat(2), nat(2) },
		"great bounds":        func(p *api.Params) { p.Rule.Slack, p.Handle, p.ExpLow = nat(1<<60), nat(1<<61), nat(1<<62) },
		"equal bases":         func(p *api.Params) { p.Main.H, p.Whole.H = p.Main.G, p.Whole.G },
		"no square":           func(p *api.Params) { p.Whole.G, p.Whole.H = nat(2), nat(76) },
		"the least modulus":   func(p *api.Params) { p.Whole = api.Pedersen{Group: api.Group{Modulus: nat(9)}, G: nat(2), H: nat(8)} },
		"a prime modulus":     func(p *api.Params) { p.Whole = api.Pedersen{Group: api.Group{Modulus: nat(11)}, G: nat(2), H: nat(10)} },
	} {
		checked(t, what, edited(small(), change), api.OK)
	}
	// The least order is 16, as Attr is at least 2; the least prime from there is 17.
	g := api.Pedersen{Group: api.Group{Modulus: nat(103), Order: nat(17)}, G: nat(8), H: nat(9)}
	checked(t, "a small order", edited(small(), func(p *api.Params) { p.Main, p.Secret, p.Rule.Challenges = g, nat(17), nat(17) }), api.OK)
	g = api.Pedersen{Group: api.Group{Modulus: nat(53), Order: nat(13)}, G: nat(10), H: nat(10)}
	checked(t, "too small an order", edited(small(), func(p *api.Params) { p.Main, p.Secret, p.Rule.Challenges = g, nat(13), nat(13) }), api.ErrRange)
}

// P11.3: every number has to be canonical, whatever else is wrong.
func TestCheckOfNumbersThatAreNotCanonical(t *testing.T) {
	for _, start := range []api.Params{small(), long(), {}} {
		for i := range numbers(&start) {
			for _, bad := range invalid() {
				p := edited(start, func(p *api.Params) { *numbers(p)[i] = bad })
				checked(t, "a bad number", p, api.ErrForm)
			}
		}
	}
}

// P11.3.
func TestCheckOfMainGroups(t *testing.T) {
	for what, change := range map[string]func(p *api.Params){
		"zero":                       func(p *api.Params) { p.Main = api.Pedersen{} },
		"a modulus of 9 bytes":       func(p *api.Params) { p.Main.Group.Modulus = power(64, 13) },
		"a modulus of 128 bytes":     func(p *api.Params) { p.Main.Group.Modulus = ones(128) },
		"a composite modulus":        func(p *api.Params) { p.Main.Group.Modulus = nat(93) },
		"a composite order":          func(p *api.Params) { p.Main = pedersen(47, 46, 4, 2) },
		"the order 1":                func(p *api.Params) { p.Main = pedersen(47, 1, 1, 1) },
		"an order of 9 bytes":        func(p *api.Params) { p.Main.Group.Order = power(64, 13) },
		"an order that is no factor": func(p *api.Params) { p.Main.Group.Order = nat(19) },
		"the order 0":                func(p *api.Params) { p.Main.Group.Order = "" },
		"the modulus 0":              func(p *api.Params) { p.Main.Group.Modulus = "" },
	} {
		checked(t, what, edited(small(), change), api.ErrGroup)
	}
	for x := range uint64(50) {
		power := new(big.Int).Exp(new(big.Int).SetUint64(x), big.NewInt(23), big.NewInt(47))
		wanted := api.ErrGroup
		if x > 1 && x < 47 && power.Cmp(big.NewInt(1)) == 0 {
			wanted = api.OK
		}
		checked(t, "G of Main", edited(small(), func(p *api.Params) { p.Main.G = nat(x) }), wanted)
		checked(t, "H of Main", edited(small(), func(p *api.Params) { p.Main.H = nat(x) }), wanted)
	}
}

// pedersen returns a key with small numbers.
func pedersen(modulus, order, g, h uint64) api.Pedersen {
	return api.Pedersen{Group: api.Group{Modulus: nat(modulus), Order: nat(order)}, G: nat(g), H: nat(h)}
}

// P11.3.
func TestCheckOfWholeGroups(t *testing.T) {
	for what, change := range map[string]func(p *api.Params){
		"zero":          func(p *api.Params) { p.Whole = api.Pedersen{} },
		"an order":      func(p *api.Params) { p.Whole.Group.Order = nat(15) },
		"the order 1":   func(p *api.Params) { p.Whole.Group.Order = nat(1) },
		"even":          func(p *api.Params) { p.Whole = pedersen(78, 0, 5, 7) },
		"10":            func(p *api.Params) { p.Whole = pedersen(10, 0, 3, 7) },
		"8":             func(p *api.Params) { p.Whole = pedersen(8, 0, 3, 5) },
		"7":             func(p *api.Params) { p.Whole = pedersen(7, 0, 2, 3) },
		"5":             func(p *api.Params) { p.Whole = pedersen(5, 0, 2, 3) },
		"1":             func(p *api.Params) { p.Whole = pedersen(1, 0, 0, 0) },
		"the modulus 0": func(p *api.Params) { p.Whole.Group.Modulus = "" },
		"a long base":   func(p *api.Params) { p.Whole.G = ones(128) },
		"another one":   func(p *api.Params) { p.Whole.H = ones(128) },
	} {
		checked(t, what, edited(small(), change), api.ErrGroup)
	}
	for x := range uint64(80) {
		wanted := api.ErrGroup
		if x > 1 && x < 77 && x%7 != 0 && x%11 != 0 {
			wanted = api.OK
		}
		checked(t, "G of Whole", edited(small(), func(p *api.Params) { p.Whole.G = nat(x) }), wanted)
		checked(t, "H of Whole", edited(small(), func(p *api.Params) { p.Whole.H = nat(x) }), wanted)
	}
}

// P11.3.
func TestCheckOfBounds(t *testing.T) {
	for _, start := range []api.Params{small(), long()} {
		for i := range bounds(&start) {
			for x := range uint64(2) {
				checked(t, "a small bound", edited(start, func(p *api.Params) { *bounds(p)[i] = nat(x) }), api.ErrRange)
			}
			checked(t, "the bound 2", edited(start, func(p *api.Params) { *bounds(p)[i] = nat(2) }), api.OK)
		}
		q := start.Main.Group.Order
		more := fromBig(new(big.Int).Add(toBig(q), big.NewInt(1)))
		eighth := fromBig(new(big.Int).Div(toBig(q), big.NewInt(8)))
		above := fromBig(new(big.Int).Add(toBig(eighth), big.NewInt(1)))
		for what, c := range map[string]struct {
			change func(p *api.Params, x api.Nat)
			most   api.Nat
			above  api.Nat
		}{
			"Challenges": {func(p *api.Params, x api.Nat) { p.Rule.Challenges = x }, q, more},
			"Secret":     {func(p *api.Params, x api.Nat) { p.Secret = x }, q, more},
			"Attr":       {func(p *api.Params, x api.Nat) { p.Attr = x }, eighth, above},
		} {
			checked(t, what, edited(start, func(p *api.Params) { c.change(p, c.most) }), api.OK)
			// 8 * 2^1021 is too long, and its last 128 bytes are 0
			for _, x := range []api.Nat{c.above, q + "\x00", power(64, 0), power(1021, 0), power(1021, 1), ones(128)} {
				checked(t, what, edited(start, func(p *api.Params) { c.change(p, x) }), api.ErrRange)
			}
		}
		for _, i := range []int{1, 4, 5, 6, 7, 8} {
			checked(t, "a great bound", edited(start, func(p *api.Params) { *bounds(p)[i] = ones(128) }), api.OK)
		}
	}
}

// P11.3: the first group of conditions that is violated decides.
func TestOrderOfChecks(t *testing.T) {
	badForm := func(p *api.Params) { p.Mask = "\x00\x05" }
	badMain := func(p *api.Params) { p.Main.H = nat(1) }
	badWhole := func(p *api.Params) { p.Whole.G = nat(1) }
	badRule := func(p *api.Params) { p.Rule.Challenges = nat(1) }
	badBlind := func(p *api.Params) { p.Blind = "" }
	for _, c := range []struct {
		first, second func(p *api.Params)
		wanted        api.Errno
	}{
		{badForm, badMain, api.ErrForm}, {badForm, badWhole, api.ErrForm}, {badForm, badRule, api.ErrForm}, {badMain, badRule, api.ErrGroup},
		{badWhole, badRule, api.ErrGroup}, {badMain, badBlind, api.ErrGroup}, {badWhole, badBlind, api.ErrGroup}, {badRule, badBlind, api.ErrRange},
	} {
		checked(t, "two errors", edited(edited(small(), c.first), c.second), c.wanted)
	}
	checked(t, "zero", api.Params{}, api.ErrGroup)
}

// P11.3: the greatest sizes, and those that are too long.
func TestLongSizes(t *testing.T) {
	half := func(more int64) api.Nat { return power(1023, more) }
	for _, c := range []struct {
		what                                 string
		handle, low, size, blind, mask, sign api.Nat
		err                                  api.Errno
	}{
		// V = 2 Blind + 8, and 8 = (2 + 2) 2
		{"the greatest V", nat(2), nat(2), nat(2), half(-5), nat(2), ones(127) + "\xfe", api.OK},
		{"a sum that is too long", nat(2), nat(2), nat(2), half(-4), nat(2), "", api.ErrLong},
		{"2 Blind", nat(2), nat(2), nat(2), half(0), nat(2), "", api.ErrLong},
		{"2 Blind of ones", nat(2), nat(2), nat(2), ones(128), nat(2), "", api.ErrLong},
		{"ExpLow + ExpSize", nat(2), half(0), half(0), nat(2), nat(2), "", api.ErrLong},
		{"ExpLow + ExpSize of ones", nat(2), ones(128), nat(2), nat(2), nat(2), "", api.ErrLong},
		{"the product with Mask", nat(2), half(-2), nat(2), nat(2), nat(2), "", api.ErrLong},
		{"a product of 128 bytes", nat(2), half(-5), nat(2), nat(2), nat(2), ones(127) + "\xfe", api.OK},
		{"the greatest W", half(-1), nat(2), nat(2), nat(2), nat(2), nat(12), api.OK},
		{"Handle Mask", half(0), nat(2), nat(2), nat(2), nat(2), "", api.ErrLong},
		{"Handle Mask of ones", ones(128), nat(2), nat(2), nat(2), nat(2), "", api.ErrLong},
	} {
		p := small()
		p.Handle, p.ExpLow, p.ExpSize, p.Blind, p.Mask = c.handle, c.low, c.size, c.blind, c.mask
		if v, _, err := Sizes(p); v != c.sign || err != c.err {
			t.Errorf("%s: got %x and error %d, want %x and error %d", c.what, v, err, c.sign, c.err)
		}
		checked(t, c.what, p, api.OK)
	}
}

// P11.3: sizes of numbers of all lengths.
func TestSizes(t *testing.T) {
	tape := coins.Seed("sizes")
	for range 500 {
		p := small()
		for _, x := range []*api.Nat{&p.Handle, &p.ExpLow, &p.ExpSize, &p.Blind, &p.Mask} {
			var bits api.Nat
			bits, tape, _ = coins.Below(tape, nat(600))
			n, _ := natural.Small(bits)
			*x, tape, _ = coins.Below(tape, power(uint(n), 0))
			*x, _ = natural.Add(*x, nat(2))
		}
		sized(t, "random numbers", p)
	}
}

// P11.4: greater numbers leave valid parameters valid.
func TestGreaterNumbers(t *testing.T) {
	for _, start := range []api.Params{small(), long()} {
		for _, i := range []int{4, 5, 6, 7, 8} {
			p := start
			for range 300 {
				x := bounds(&p)[i]
				more, err := natural.Add(*x, fromBig(new(big.Int).Div(toBig(*x), big.NewInt(4))))
				if err != api.OK {
					break
				}
				*x, _ = natural.Add(more, nat(1))
				if err := Check(p); err != api.OK {
					t.Fatalf("number %d, raised to %x: got error %d", i, *x, err)
				}
			}
		}
	}
}
