package sigma

import (
	"math"
	"math/big"
	"math/rand"
	"slices"
	"testing"

	"domino/api"
	"domino/coins"
	"domino/integer"
)

// compareCommit compares Commit with its definition, and returns the error.
func compareCommit(t *testing.T, r api.Rule, s api.Statement, tape api.Tape) api.Errno {
	t.Helper()
	masks, first, behind, err := Commit(r, s, tape)
	wanted, wantedFirst, wantedBehind, e := referenceCommit(r, s, tape)
	if err != e || !slices.Equal(masks, wanted) || !slices.Equal(first, wantedFirst) || !sameTape(behind, wantedBehind) {
		t.Fatalf("Commit of %v, %s and %s: got %v, %x, %s and error %d, want %v, %x, %s and error %d", r, short(s), short(tape), masks, first, short(behind), err, wanted, wantedFirst, short(wantedBehind), e)
	}
	return err
}

// P16.1: the examples of the document, and the masks of all coins.
func TestCommitSmall(t *testing.T) {
	for _, x := range []struct {
		bound, coin uint64
		mask        int64
		first       uint64
	}{{0, 7, 7, 8}, {0, 0, 0, 1}, {0, 10, 10, 6}, {4, 1, -14, 9}, {4, 0, -15, 8}, {4, 27, 12, 4}, {4, 30, 15, 3}} {
		masks, first, tape, err := Commit(rule(2, 2), logarithm(x.bound), values(x.coin, 9))
		if err != api.OK || !slices.Equal(masks, ints(x.mask)) || !slices.Equal(first, nats(x.first)) || !sameTape(tape, api.Tape{Values: nats(x.coin, 9), At: 1}) {
			t.Errorf("the coin %d for the bound %d: got %v, %x, %v and error %d", x.coin, x.bound, masks, first, tape, err)
		}
	}
	for bound := range uint64(7) {
		for coin := range uint64(60) {
			for _, r := range []api.Rule{rule(2, 2), rule(2, 3), rule(3, 2), rule(11, 2)} {
				compareCommit(t, r, logarithm(bound), values(coin))
			}
		}
	}
	for coin := range uint64(50) {
		compareCommit(t, rule(2, 2), mixed(), values(coin%12, coin, 60-coin))
		compareCommit(t, rule(2, 2), mixed(), api.Tape{Values: nats(99, coin%7, coin, 2*coin, 99), At: 1})
	}
}

// P16.1: statements of all sizes, with coins from seeds.
func TestCommitFromSeeds(t *testing.T) {
	r := rand.New(rand.NewSource(2))
	for _, groups := range lists() {
		for i := range 20 {
			s, _ := sample(r, groups, 400)
			for _, tape := range []api.Tape{coins.Seed("a seed"), {Seed: "b", At: i * 1000}, {Values: nats(1, 0), Seed: "c"}, {Seed: "d", At: math.MaxInt32 - 2}} {
				compareCommit(t, rule(2, 2), s, tape)
				compareCommit(t, rule(3, 1000), s, tape)
			}
			if len(groups[0].Modulus) > 100 && i > 1 {
				break
			}
		}
	}
}

// P16.1: the errors of the coins, in the order of the variables.
func TestErrorsOfCoins(t *testing.T) {
	check := func(what string, s api.Statement, tape api.Tape, wanted api.Errno) {
		t.Helper()
		expectError(t, what, compareCommit(t, rule(2, 2), s, tape), wanted)
		refusedProof(t, what, rule(2, 2), s, make([]api.Int, len(s.Vars)), "\x01", tape, wanted)
	}
	s := api.Statement{Groups: mixed().Groups, Vars: variables(0, 5, 9), Equations: []api.Equation{equation(1, 1, term(4, 0, 1)), equation(0, 1, term(4, 2, 1))}}
	for _, tape := range malformed() {
		check("a tape that is not well-formed", s, tape, api.ErrForm)
	}
	check("no coins", s, api.Tape{}, api.ErrCoins)
	check("too few coins", s, values(1, 2), api.ErrCoins)
	check("too few coins", s, api.Tape{Values: nats(1, 2, 3), At: 1}, api.ErrCoins)
	check("the end of a tape", s, api.Tape{Seed: "a", At: math.MaxInt32 - 1}, api.ErrCoins)
	check("a number that is not below the order", s, values(11, 99, 99), api.ErrRange)
	check("an integer that is not below its limit", s, values(10, 39, 1), api.ErrRange)
	check("a last integer that is not below its limit", s, values(10, 38, 71), api.ErrRange)
	check("a coin that is too great, ahead of the end", s, values(10, 39), api.ErrRange)
	expectError(t, "the greatest coins", compareCommit(t, rule(2, 2), s, values(10, 38, 70)), api.OK)
	// The limit has 128 bytes, but twice the limit has 129.
	s.Vars = []api.Variable{{}, {Bound: fromBig(long(2, 1021, 1))}, {Bound: nat(9)}}
	check("a limit that is too long for a coin", s, coins.Seed("a"), api.ErrLong)
	check("no coin ahead of that limit", s, api.Tape{}, api.ErrCoins)
	check("no coin for that limit", s, values(1), api.ErrLong)
	s.Vars[1].Bound = fromBig(long(2, 1021, 0))
	expectError(t, "a limit that is long enough for a coin", compareCommit(t, rule(2, 2), s, coins.Seed("a")), api.OK)
}

// P16.1, P16.2: without variables no coins are drawn, and the tape is returned, whatever it is.
func TestCommitWithoutVariables(t *testing.T) {
	s := api.Statement{Groups: []api.Group{group(23, 11), group(77, 0)}, Equations: []api.Equation{equation(0, 1), equation(1, 1)}}
	for _, tape := range append(malformed(), api.Tape{}, coins.Seed("a"), values(3, 4), api.Tape{Values: nats(3), At: 1}, api.Tape{Seed: "b", At: math.MaxInt32}) {
		values := slices.Clone(tape.Values)
		masks, first, behind, err := Commit(rule(2, 2), s, tape)
		if err != api.OK || len(masks) > 0 || !slices.Equal(first, nats(1, 1)) || !sameTape(behind, tape) {
			t.Errorf("%s: got %v, %x, %s and error %d", short(tape), masks, first, short(behind), err)
		}
		p, proved, err := Prove(rule(2, 2), s, nil, "\x01", tape)
		if err != api.OK || !sameProof(p, api.Proof{First: nats(1, 1), Challenge: "\x01"}) || !sameTape(proved, tape) {
			t.Errorf("%s: got %s, %s and error %d", short(tape), short(p), short(proved), err)
		}
		expectError(t, "Verify", Verify(rule(2, 2), s, p), api.OK)
		for _, result := range []api.Tape{behind, proved} {
			for i := range result.Values {
				result.Values[i] = nat(99)
			}
		}
		if !slices.Equal(tape.Values, values) {
			t.Errorf("%s: the results share memory with the tape", short(tape))
		}
	}
	masks, first, behind, err := Commit(rule(2, 2), api.Statement{}, api.Tape{At: -1})
	if err != api.OK || len(masks)+len(first) > 0 || behind.At != -1 {
		t.Errorf("nothing: got %v, %x, %v and error %d", masks, first, behind, err)
	}
	if responses, err := Respond(rule(2, 2), s, nil, nil, "\x01"); err != api.OK || len(responses) > 0 {
		t.Errorf("Respond: got %v and error %d", responses, err)
	}
	if _, err := Respond(rule(2, 2), s, nil, nil, "\x02"); err != api.ErrRange {
		t.Errorf("Respond to a challenge that is too great: got error %d", err)
	}
}

// P16.1: a first message with an exponent that is too long, behind the errors of the coins.
func TestCommitWithLongExponents(t *testing.T) {
	s := api.Statement{Groups: []api.Group{group(23, 11)}, Vars: variables(4, 4), Equations: []api.Equation{
		{Target: nat(1), Terms: []api.Term{{Base: nat(4), Coef: fromSigned(long(2, 1021, 0))}}},
	}}
	for coin := range uint64(32) {
		compareCommit(t, rule(2, 2), s, values(coin, 31))
		compareCommit(t, rule(2, 2), s, values(coin, 30))
		compareCommit(t, rule(2, 2), s, values(coin))
	}
	for coin, wanted := range map[uint64]api.Errno{7: api.ErrLong, 8: api.OK, 15: api.OK, 22: api.OK, 23: api.ErrLong} {
		expectError(t, "a long exponent", compareCommit(t, rule(2, 2), s, values(coin, 1)), wanted)
	}
	expectError(t, "a long exponent, and no coin", compareCommit(t, rule(2, 2), s, values(7)), api.ErrCoins)
}

// P16.1: a result shares no memory with the tape, and the tape is not changed.
func TestCommitMemory(t *testing.T) {
	tape := values(1, 2, 3)
	_, _, behind, _ := Commit(rule(2, 2), mixed(), tape)
	behind.Values[0] = nat(99)
	_, proved, _ := Prove(rule(2, 2), mixed(), ints(3, 2, -1), "\x01", values(1, 20, 36))
	if !slices.Equal(tape.Values, nats(1, 2, 3)) || tape.At != 0 || proved.At != 3 {
		t.Errorf("the tapes are %v and %v", tape, proved)
	}
}

// compareRespond compares Respond with its definition, and returns the error.
func compareRespond(t *testing.T, r api.Rule, s api.Statement, w, masks []api.Int, c api.Nat) api.Errno {
	t.Helper()
	got, err := Respond(r, s, w, masks, c)
	if wanted, e := referenceRespond(r, s, w, masks, c); err != e || !slices.Equal(got, wanted) {
		t.Fatalf("Respond of %v, %s, %v, %v and %x: got %v and error %d, want %v and error %d", r, short(s), w, masks, c, got, err, wanted, e)
	}
	return err
}

// P16.1: the examples of the document, and all small numbers.
func TestRespondSmall(t *testing.T) {
	for _, x := range []struct {
		bound          uint64
		mask, response int64
		err            api.Errno
	}{{0, 7, 10, api.OK}, {0, 8, 0, api.OK}, {4, -14, -11, api.OK}, {4, 12, 0, api.ErrRetry}, {4, 10, 0, api.ErrRetry}, {4, 9, 12, api.OK}, {4, -15, -12, api.OK}} {
		got, err := Respond(rule(2, 2), logarithm(x.bound), ints(3), ints(x.mask), "\x01")
		if err != x.err || err == api.OK && !slices.Equal(got, ints(x.response)) || err != api.OK && len(got) > 0 {
			t.Errorf("the mask %d with the bound %d: got %v and error %d", x.mask, x.bound, got, err)
		}
	}
	count := map[api.Errno]int{}
	for bound := range uint64(6) {
		for _, r := range []api.Rule{rule(2, 2), rule(3, 2), rule(2, 3), rule(4, 2)} {
			for w := int64(-7); w <= 12; w++ {
				for mask := int64(-50); mask <= 50; mask++ {
					for c := range uint64(6) {
						count[compareRespond(t, r, logarithm(bound), ints(w), ints(mask), nat(c))]++
					}
				}
			}
		}
	}
	if count[api.OK] < 1000 || count[api.ErrRange] < 1000 || count[api.ErrRetry] < 1000 {
		t.Errorf("got these errors: %v", count)
	}
}

// P16.1: the errors of one of several variables.
func TestRespondOfSeveralVariables(t *testing.T) {
	for _, x := range []struct {
		w, masks []api.Int
		c        uint64
		err      api.Errno
	}{
		{ints(3, 2, -1), ints(7, 5, 5), 1, api.OK},
		{ints(10, 4, 8), ints(10, 10, -35), 1, api.OK},
		{ints(10, 4, 8), ints(10, 19, 35), 0, api.ErrRetry},
		{ints(10, 4, 8), ints(10, 15, 27), 0, api.OK},
		{ints(10, 4, 8), ints(10, 16, 27), 0, api.ErrRetry},
		{ints(10, 4, 8), ints(10, 15, 28), 0, api.ErrRetry},
		{ints(10, 4, -8), ints(10, 11, -20), 1, api.ErrRetry},
		{ints(10, 4, -8), ints(10, 12, -19), 1, api.ErrRetry},
		{ints(10, 4, -8), ints(10, 11, -19), 1, api.OK},
		{ints(11, 4, 8), ints(10, 19, 35), 1, api.ErrRange},
		{ints(-1, 4, 8), ints(10, 19, 35), 1, api.ErrRange},
		{ints(10, 5, 8), ints(10, 19, 35), 1, api.ErrRange},
		{ints(10, 4, -9), ints(10, 19, 35), 1, api.ErrRange},
		{ints(10, 4, 8), ints(11, 19, 35), 1, api.ErrRange},
		{ints(10, 4, 8), ints(-1, 19, 35), 1, api.ErrRange},
		{ints(10, 4, 8), ints(10, -20, 35), 1, api.ErrRange},
		{ints(10, 4, 8), ints(10, 19, 36), 1, api.ErrRange},
		{ints(10, 4, 8), ints(10, 19, 35), 2, api.ErrRange},
		{ints(10, 4), ints(10, 19, 99), 9, api.ErrMany},
		{ints(10, 4, 99, 9), ints(10, 19, 99), 9, api.ErrMany},
		{ints(10, 99, 9), ints(10, 19), 9, api.ErrMany},
		{ints(10, 99, 9), ints(10, 19, 1, 1), 9, api.ErrMany},
		{nil, nil, 9, api.ErrMany},
	} {
		compareRespond(t, rule(2, 2), mixed(), x.w, x.masks, nat(x.c))
		_, err := Respond(rule(2, 2), mixed(), x.w, x.masks, nat(x.c))
		// The limits of the integers are 20 and 36 for masks, 16 and 28 for responses.
		expectError(t, short(x), err, x.err)
	}
	for _, bad := range invalidInts() {
		for _, c := range []uint64{0, 2} {
			compareRespond(t, rule(2, 2), mixed(), append(ints(3, 2), bad), ints(7, 5, 5), nat(c))
			compareRespond(t, rule(2, 2), mixed(), ints(3, 2, -1), append(ints(7, 5), bad), nat(c))
			compareRespond(t, rule(2, 2), mixed(), append(ints(3, 2, 1), bad), nil, nat(c))
			compareRespond(t, rule(2, 2), mixed(), nil, []api.Int{bad}, nat(c))
			expectError(t, "a mask that is not valid", compareRespond(t, rule(2, 2), mixed(), ints(3), []api.Int{bad}, nat(c)), api.ErrForm)
		}
	}
	for _, bad := range invalid() {
		expectError(t, "a challenge that is not canonical", compareRespond(t, rule(2, 2), mixed(), ints(3, 2, 99), ints(7), bad), api.ErrForm)
	}
}

// P16.1: numbers modulo a long order, whose products with a challenge are longer than numbers can be, and masks whose sums are.
func TestRespondLong(t *testing.T) {
	q := toBig(second().Order)
	end := fromSigned(new(big.Int).Sub(q, big.NewInt(1)))
	s := api.Statement{Groups: []api.Group{second()}, Vars: variables(0)}
	all := api.Rule{Challenges: second().Order, Slack: nat(2)}
	r := rand.New(rand.NewSource(3))
	for range 50 {
		w, mask, c := fromSigned(new(big.Int).Rand(r, q)), fromSigned(new(big.Int).Rand(r, q)), fromBig(new(big.Int).Rand(r, q))
		expectError(t, "Respond", compareRespond(t, all, s, []api.Int{w}, []api.Int{mask}, c), api.OK)
	}
	expectError(t, "the greatest numbers", compareRespond(t, all, s, []api.Int{end}, []api.Int{end}, end.Abs), api.OK)
	expectError(t, "the order", compareRespond(t, all, s, []api.Int{fromSigned(q)}, []api.Int{end}, end.Abs), api.ErrRange)
	// Masks are less than 2^1024 - 2^513, responses less than 2^1023 + 2^511 - 2.
	s.Vars = []api.Variable{{Bound: fromBig(long(2, 511, -1))}}
	some := api.Rule{Challenges: fromBig(long(2, 512, 0)), Slack: nat(2)}
	w, c := fromSigned(long(2, 511, -2)), fromBig(long(2, 512, -1))
	mask := new(big.Int).Sub(long(2, 1024, 0), long(2, 513, 1))
	expectError(t, "a sum that is too long", compareRespond(t, some, s, []api.Int{w}, []api.Int{fromSigned(mask)}, c), api.ErrRetry)
	expectError(t, "a sum that is too long", compareRespond(t, some, s, []api.Int{integer.Neg(w)}, []api.Int{fromSigned(new(big.Int).Neg(mask))}, c), api.ErrRetry)
	expectError(t, "a mask without its witness", compareRespond(t, some, s, []api.Int{w}, []api.Int{fromSigned(mask)}, ""), api.ErrRetry)
	expectError(t, "a long response", compareRespond(t, some, s, []api.Int{integer.Neg(w)}, []api.Int{fromSigned(mask)}, c), api.OK)
	for range 50 {
		w, mask := below(r, long(2, 511, -1)), below(r, new(big.Int).Sub(long(2, 1024, 0), long(2, 513, 0)))
		compareRespond(t, some, s, []api.Int{w}, []api.Int{mask}, fromBig(new(big.Int).Rand(r, long(2, 512, 0))))
	}
}

// P16.1: the arguments are not changed, and a result shares no memory with them.
func TestRespondMemory(t *testing.T) {
	w, masks := slices.Grow(ints(3, 2, -1), 9), slices.Grow(ints(7, 5, 5), 9)
	got, err := Respond(rule(2, 2), mixed(), w, masks, "")
	if err != api.OK || !slices.Equal(got, masks) {
		t.Fatalf("got %v and error %d", got, err)
	}
	got[0], got[2] = integer.Of(99), integer.Of(99)
	if !slices.Equal(masks, ints(7, 5, 5)) || !slices.Equal(w, ints(3, 2, -1)) || w[:4][3] != (api.Int{}) || masks[:4][3] != (api.Int{}) {
		t.Errorf("the arguments are %v and %v", w, masks)
	}
}

// P16.3: every response below the limit results from exactly one mask, for every witness and challenge.
func TestResponsesHaveOneMask(t *testing.T) {
	for bound := range uint64(6) {
		for _, r := range []api.Rule{rule(2, 2), rule(3, 2), rule(2, 3), rule(4, 3)} {
			masks, responses, _ := Bounds(r, logarithm(bound))
			end, limit := toBig(masks[0]).Int64(), toBig(responses[0]).Int64()
			least, greatest := 1-int64(bound), int64(bound)-1
			from, last := 1-end, limit-1
			if bound == 0 {
				least, greatest, from = 0, 10, 0
			}
			for w := least; w <= greatest; w++ {
				for c := range toBig(r.Challenges).Uint64() {
					count := map[int64]int{}
					for mask := from; mask < end; mask++ {
						if got, err := Respond(r, logarithm(bound), ints(w), ints(mask), nat(c)); err == api.OK {
							count[toSigned(got[0]).Int64()]++
						}
					}
					for x := from; x < end; x++ {
						wanted := 0
						if x <= last && (x >= -last || bound == 0) {
							wanted = 1
						}
						if count[x] != wanted {
							t.Errorf("the response %d to %d with the witness %d and the bound %d has %d masks", x, c, w, bound, count[x])
						}
					}
				}
			}
		}
	}
}
