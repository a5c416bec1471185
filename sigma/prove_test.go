package sigma

import (
	"math/big"
	"math/rand"
	"slices"
	"testing"

	"domino/api"
	"domino/coins"
	"domino/integer"
)

// compareProve compares Prove with its definition, checks that Verify accepts the proof, and returns the error.
func compareProve(t *testing.T, r api.Rule, s api.Statement, w []api.Int, c api.Nat, tape api.Tape) api.Errno {
	t.Helper()
	p, behind, err := Prove(r, s, w, c, tape)
	wanted, wantedBehind, e := referenceProve(r, s, w, c, tape)
	if err != e || !sameProof(p, wanted) || !sameTape(behind, wantedBehind) {
		t.Fatalf("Prove of %v, %s, %v, %x and %s: got %s, %s and error %d, want %s, %s and error %d", r, short(s), w, c, short(tape), short(p), short(behind), err, short(wanted), short(wantedBehind), e)
	}
	if err == api.OK {
		expectError(t, "Verify", Verify(r, s, p), api.OK)
	}
	return err
}

// P16.2, P16.3: the document's statements with all small witnesses, challenges and coins.
func TestProveSmall(t *testing.T) {
	count := map[api.Errno]int{}
	for _, bound := range []uint64{0, 1, 4, 9} {
		for w := int64(-10); w <= 11; w++ {
			for c := range uint64(4) {
				for coin := range uint64(40) {
					for _, r := range []api.Rule{rule(2, 2), rule(3, 3)} {
						count[compareProve(t, r, logarithm(bound), ints(w), nat(c), values(coin, 14, 5))]++
					}
				}
			}
		}
	}
	for _, e := range []api.Errno{api.OK, api.ErrRange, api.ErrFalse} {
		if count[e] < 100 {
			t.Errorf("error %d occurred %d times only", e, count[e])
		}
	}
	p, tape, err := Prove(rule(2, 2), logarithm(0), ints(3), "\x01", values(7))
	if err != api.OK || !sameProof(p, proof(8, 1, 10)) || tape.At != 1 {
		t.Errorf("the first example: got %v, %v and error %d", p, tape, err)
	}
	p, tape, err = Prove(rule(2, 2), logarithm(4), ints(3), "\x01", values(27, 1, 0))
	if err != api.OK || !sameProof(p, proof(9, 1, -11)) || tape.At != 2 {
		t.Errorf("the second example: got %v, %v and error %d", p, tape, err)
	}
}

// P16.2, P16.3: statements of all sizes, with coins from seeds.
func TestProveOfRandomStatements(t *testing.T) {
	r := rand.New(rand.NewSource(5))
	for i, groups := range lists() {
		for range []int{40, 40, 40, 40, 40, 2}[i] {
			s, w := sample(r, groups, 300)
			for _, some := range []api.Rule{rule(2, 2), rule(3, 100)} {
				c := nat(uint64(r.Intn(4)))
				compareProve(t, some, s, w, c, coins.Seed(short(w)))
				other := slices.Clone(w)
				other[0], _ = integer.Add(w[0], integer.Of(1))
				compareProve(t, some, s, other, c, coins.Seed(short(w)))
			}
		}
	}
}

// P16.2: with coins that yield no response for a number of attempts.
func TestProveAgain(t *testing.T) {
	// With the coin 30 the mask is 15, and the response to 1 is 18, which is not below 13; with 10 it is -2.
	for _, failed := range []int{0, 1, 2, 62, 63, 64, 65} {
		for _, tape := range []api.Tape{{Values: append(slices.Repeat(nats(30), failed), nats(10, 30)...)}, {Values: append(nats(99), append(slices.Repeat(nats(30), failed), nat(10))...), At: 1}} {
			p, behind, err := Prove(rule(2, 2), logarithm(4), ints(3), "\x01", tape)
			if failed >= 64 {
				if err != api.ErrRetry || !sameProof(p, api.Proof{}) || !sameTape(behind, api.Tape{}) {
					t.Errorf("%d attempts: got %v, %v and error %d", failed, p, behind, err)
				}
			} else if err != api.OK || behind.At != tape.At+failed+1 || !slices.Equal(behind.Values, tape.Values) || !slices.Equal(p.Responses, ints(-2)) {
				t.Errorf("%d attempts: got %v, %v and error %d", failed, p, behind, err)
			}
			compareProve(t, rule(2, 2), logarithm(4), ints(3), "\x01", tape)
		}
	}
	for failed := range 64 {
		refusedProof(t, "no more coins", rule(2, 2), logarithm(4), ints(3), "\x01", api.Tape{Values: slices.Repeat(nats(30), failed)}, api.ErrCoins)
		refusedProof(t, "a coin that is too great", rule(2, 2), logarithm(4), ints(3), "\x01", api.Tape{Values: append(slices.Repeat(nats(30), failed), nat(31))}, api.ErrRange)
	}
	refusedProof(t, "64 attempts", rule(2, 2), logarithm(4), ints(3), "\x01", api.Tape{Values: slices.Repeat(nats(30), 64)}, api.ErrRetry)
	refusedProof(t, "64 attempts, and a seed", rule(2, 2), logarithm(4), ints(3), "\x01", api.Tape{Values: slices.Repeat(nats(30), 64), Seed: "a"}, api.ErrRetry)
	expectError(t, "63 attempts, and a seed", compareProve(t, rule(2, 2), logarithm(0), ints(3), "\x01", api.Tape{Values: nats(30), Seed: "a", At: 1}), api.OK)
	refusedProof(t, "a second variable without a coin", rule(2, 2), mixed(), ints(3, 2, -1), "\x01", values(1, 38, 35, 2), api.ErrCoins)
	expectError(t, "a second attempt with three variables", compareProve(t, rule(2, 2), mixed(), ints(3, 2, -1), "\x01", values(1, 38, 35, 2, 19, 35)), api.OK)
	expectError(t, "a third attempt with three variables", compareProve(t, rule(2, 2), mixed(), ints(3, 2, -1), "\x01", values(1, 38, 35, 2, 19, 0, 3, 19, 35)), api.OK)
}

// P16.2: ErrForm, ErrMany, ErrRange and ErrFalse come ahead of the errors of the coins.
func TestErrorsOfProve(t *testing.T) {
	s := mixed()
	check := func(what string, w []api.Int, c api.Nat, wanted api.Errno) {
		t.Helper()
		for _, tape := range []api.Tape{coins.Seed("a"), {}, {At: -1}, values(99)} {
			refusedProof(t, what, rule(2, 2), s, w, c, tape, wanted)
		}
	}
	for _, bad := range invalidInts() {
		for _, c := range nats(1, 2) {
			check("an integer that is not valid", append(ints(3, 2), bad), c, api.ErrForm)
			check("a fourth integer that is not valid", append(ints(3, 2, 1), bad), c, api.ErrForm)
			check("an integer that is not valid, too few", []api.Int{bad}, c, api.ErrForm)
		}
	}
	for _, bad := range invalid() {
		check("a challenge that is not canonical", ints(3, 2, -1), bad, api.ErrForm)
		check("a challenge that is not canonical, and no witness", nil, bad, api.ErrForm)
	}
	for _, c := range nats(1, 2) {
		check("no integers", nil, c, api.ErrMany)
		check("too few integers", ints(3, 2), c, api.ErrMany)
		check("too many integers", ints(3, 2, -1, 0), c, api.ErrMany)
	}
	for _, c := range []api.Nat{nat(2), nat(3), nat(256), ones(128)} {
		check("a challenge that is too great", ints(3, 2, -1), c, api.ErrRange)
		check("a challenge that is too great, and no witness", ints(3, 2, 0), c, api.ErrRange)
	}
	for _, w := range [][]api.Int{ints(14, 2, -1), ints(-8, 2, -1), ints(11, 2, -1), ints(-1, 2, -1), ints(3, 5, -1), ints(3, -5, -1), ints(3, 2, 9), ints(3, 2, -9)} {
		check("a witness that is not in range", w, "\x01", api.ErrRange)
	}
	for _, w := range [][]api.Int{ints(4, 2, -1), ints(3, 1, -1), ints(3, 2, 1), ints(0, 0, 0), ints(10, 4, 8)} {
		check("a witness for which the statement does not hold", w, "\x01", api.ErrFalse)
		check("a witness for which the statement does not hold", w, "", api.ErrFalse)
	}
}

// P16.2: exponents of a witness and of masks that are too long.
func TestProveWithLongExponents(t *testing.T) {
	s := api.Statement{Groups: []api.Group{group(23, 11)}, Vars: variables(4), Equations: []api.Equation{
		equation(0, 18, term(4, 0, 1)),
		{Terms: []api.Term{{Base: nat(4), Coef: fromSigned(long(2, 1022, 0))}}},
	}}
	s.Equations[1].Target = referenceImage(s.Groups[0], s.Equations[1].Terms, ints(3))
	prove := func(what string, w int64, c api.Nat, tape api.Tape, wanted api.Errno) {
		t.Helper()
		_, _, err := Prove(rule(2, 2), s, ints(w), c, tape)
		_, _, e := referenceProve(rule(2, 2), s, ints(w), c, tape)
		expectError(t, what, err, wanted)
		expectError(t, what+" by the definition", e, wanted)
	}
	prove("a mask", 3, "", values(18), api.OK)
	prove("a mask that is too long", 3, "", values(19), api.ErrLong)
	prove("a mask that is too long, whose response is too great", 3, "\x01", values(30), api.ErrLong)
	prove("no coins", 3, "\x01", api.Tape{}, api.ErrCoins)
	prove("a witness for which the statement does not hold", 2, "", values(19), api.ErrFalse)
	s.Equations[1].Terms[0].Coef = fromSigned(long(2, 1023, 0))
	prove("a witness that is too long", 3, "", values(19), api.ErrLong)
	prove("a witness that is too long, and no coins", 3, "", api.Tape{}, api.ErrLong)
	prove("a witness that is not in range", 4, "", values(19), api.ErrRange)
	prove("a witness that is too long, for which the statement does not hold", 2, "", values(19), api.ErrLong)
	prove("a challenge that is too great", 3, "\x02", values(19), api.ErrRange)
	// The second attempt has the mask -15.
	s = logarithm(4)
	s.Equations = append(s.Equations, api.Equation{Terms: []api.Term{{Base: nat(4), Coef: fromSigned(new(big.Int).Div(toBig(ones(128)), big.NewInt(14)))}}})
	s.Equations[1].Target = referenceImage(s.Groups[0], s.Equations[1].Terms, ints(3))
	prove("a second mask that is too long", 3, "\x01", values(29, 0), api.ErrLong)
	prove("a second mask", 3, "\x01", values(29, 1), api.OK)
	prove("a second mask, and no coin", 3, "\x01", values(29, 29), api.ErrCoins)
}

// P16.2: no error of Prove is listed for responses whose exponents are too long, so that it returns a proof, which Verify refuses.
func TestProveWithLongResponses(t *testing.T) {
	s := api.Statement{Groups: []api.Group{group(23, 11)}, Vars: variables(2), Equations: []api.Equation{{Terms: []api.Term{{Base: nat(4), Coef: fromSigned(long(2, 1022, 0))}}}}}
	s.Equations[0].Target = referenceImage(s.Groups[0], s.Equations[0].Terms, ints(1))
	// The mask is 3, and the response 4.
	p, tape, err := Prove(rule(2, 2), s, ints(1), "\x01", values(10))
	if err != api.OK || !slices.Equal(p.Responses, ints(4)) || tape.At != 1 {
		t.Errorf("got %v, %v and error %d", p, tape, err)
	}
	expectError(t, "Verify", compareVerify(t, rule(2, 2), s, p), api.ErrLong)
}

// P16.2: the arguments are not changed, and a result shares no memory with them.
func TestProveMemory(t *testing.T) {
	s, w, tape := mixed(), slices.Grow(ints(3, 2, -1), 9), values(1, 38, 35, 2, 19, 35)
	p, behind, err := Prove(rule(2, 2), s, w, "\x01", tape)
	if err != api.OK || behind.At != 6 {
		t.Fatalf("got %v, %v and error %d", p, behind, err)
	}
	p.First[0], p.Responses[0], behind.Values[0] = nat(99), integer.Of(99), nat(99)
	if !slices.Equal(w, ints(3, 2, -1)) || w[:4][3] != (api.Int{}) || !slices.Equal(tape.Values, nats(1, 38, 35, 2, 19, 35)) || tape.At != 0 || short(s) != short(mixed()) {
		t.Errorf("the arguments are %v, %v and %s", w, tape, short(s))
	}
	again, _, err := Prove(rule(2, 2), s, w, "\x01", tape)
	if err != api.OK || slices.Equal(again.First, p.First) || slices.Equal(again.Responses, p.Responses) {
		t.Errorf("the second proof is %v", again)
	}
}
