package sigma

import (
	"math/big"
	"math/rand"
	"slices"
	"testing"

	"domino/api"
)

// compareBounds compares Bounds with its definition, and returns the error.
func compareBounds(t *testing.T, r api.Rule, s api.Statement) api.Errno {
	t.Helper()
	masks, responses, err := Bounds(r, s)
	l, e := referenceRanges(r, s)
	if err != e || !slices.Equal(masks, l.first) || !slices.Equal(responses, l.second) {
		t.Fatalf("Bounds of %v and %s: got %x, %x and error %d, want %x, %x and error %d", r, short(s), masks, responses, err, l.first, l.second, e)
	}
	return err
}

// P16.1: the examples of the document.
func TestBoundsExamples(t *testing.T) {
	for _, x := range []struct{ bound, mask, response uint64 }{{0, 11, 11}, {4, 16, 13}} {
		masks, responses, err := Bounds(rule(2, 2), logarithm(x.bound))
		if err != api.OK || !slices.Equal(masks, nats(x.mask)) || !slices.Equal(responses, nats(x.response)) {
			t.Errorf("the bound %d: got %x, %x and error %d", x.bound, masks, responses, err)
		}
	}
}

// P16.1: all small rules and bounds.
func TestBoundsSmall(t *testing.T) {
	count := map[api.Errno]int{}
	for c := range uint64(15) {
		for k := range uint64(5) {
			for bound := range uint64(7) {
				for _, g := range []api.Group{group(23, 11), group(7, 3), group(13, 2)} {
					for _, vars := range [][]api.Variable{variables(bound), variables(bound, bound+1), variables(300, 0, bound), nil} {
						count[compareBounds(t, rule(c, k), api.Statement{Groups: []api.Group{group(77, 0), g}, Vars: vars})]++
					}
				}
			}
		}
	}
	if count[api.OK] < 1000 || count[api.ErrRange] < 1000 {
		t.Errorf("got these errors: %v", count)
	}
}

// P16.1.
func TestBoundsLong(t *testing.T) {
	r := rand.New(rand.NewSource(1))
	for _, groups := range lists() {
		for range 20 {
			s, _ := sample(r, groups, 500)
			some := api.Rule{Challenges: below(r, long(2, 1+r.Int63n(300), 2)).Abs, Slack: below(r, long(2, 1+r.Int63n(300), 2)).Abs}
			compareBounds(t, some, s)
		}
	}
}

// P16.1: a challenge may be any number below the order, but no more than that, if there is a number modulo the order.
func TestBoundsWithManyChallenges(t *testing.T) {
	for _, g := range []api.Group{group(23, 11), group(18446744073709551557, 5594472617641), second()} {
		for more := int64(-1); more <= 1; more++ {
			c := fromBig(new(big.Int).Add(toBig(g.Order), big.NewInt(more)))
			wanted := api.OK
			if more > 0 {
				wanted = api.ErrRange
			}
			some := api.Rule{Challenges: c, Slack: nat(2)}
			expectError(t, "a number modulo the order", compareBounds(t, some, api.Statement{Groups: []api.Group{group(77, 0), g}, Vars: variables(0)}), wanted)
			expectError(t, "an integer", compareBounds(t, some, api.Statement{Groups: []api.Group{g}, Vars: variables(1)}), api.OK)
			expectError(t, "a last number modulo the order", compareBounds(t, some, api.Statement{Groups: []api.Group{g}, Vars: variables(1, 1, 0)}), wanted)
		}
	}
}

// P16.1: limits of 128 bytes, and of 129.
func TestBoundsThatAreTooLong(t *testing.T) {
	power := func(bits int64) api.Nat { return fromBig(long(2, bits, 0)) }
	for _, x := range []struct {
		challenges, slack, bound api.Nat
		err                      api.Errno
	}{
		{power(500), power(500), power(23), api.OK},
		{power(500), power(500), power(24), api.ErrLong},
		{power(500), power(500), fromBig(long(2, 24, -1)), api.OK},
		{power(1023), nat(2), nat(1), api.ErrLong},
		{power(1022), nat(2), nat(1), api.OK},
		{nat(2), power(1022), nat(1), api.OK},
		{nat(2), power(1023), nat(1), api.ErrLong},
		{nat(2), nat(2), power(1022), api.ErrLong},
		{nat(2), nat(2), power(1021), api.OK},
		{nat(3), nat(5), fromBig(new(big.Int).Div(toBig(ones(128)), big.NewInt(15))), api.OK},
		{ones(128), ones(128), nat(1), api.ErrLong},
		{nat(2), nat(2), ones(128), api.ErrLong},
	} {
		some := api.Rule{Challenges: x.challenges, Slack: x.slack}
		expectError(t, "Bounds", compareBounds(t, some, api.Statement{Vars: []api.Variable{{Bound: x.bound}}}), x.err)
		expectError(t, "a last variable", compareBounds(t, some, api.Statement{Vars: []api.Variable{{Bound: nat(1)}, {Bound: x.bound}}}), x.err)
	}
	most := api.Rule{Challenges: ones(128), Slack: ones(128)}
	expectError(t, "no variables", compareBounds(t, most, api.Statement{}), api.OK)
	most.Challenges = second().Order
	expectError(t, "no variable with a bound", compareBounds(t, most, api.Statement{Groups: []api.Group{second()}, Vars: variables(0)}), api.OK)
}

// refused checks that all functions return an error that Bounds may return, and nothing else.
func refused(t *testing.T, what string, r api.Rule, s api.Statement, w []api.Int, c api.Nat, tape api.Tape, wanted api.Errno) {
	t.Helper()
	masks, responses, err := Bounds(r, s)
	if err != wanted || len(masks)+len(responses) > 0 {
		t.Errorf("Bounds, %s: got %x, %x and error %d, want error %d", what, masks, responses, err, wanted)
	}
	numbers, first, behind, err := Commit(r, s, tape)
	if err != wanted || len(numbers)+len(first) > 0 || !sameTape(behind, api.Tape{}) {
		t.Errorf("Commit, %s: got %v, %x, %v and error %d, want error %d", what, numbers, first, behind, err, wanted)
	}
	numbers, err = Respond(r, s, w, w, c)
	if err != wanted || len(numbers) > 0 {
		t.Errorf("Respond, %s: got %v and error %d, want error %d", what, numbers, err, wanted)
	}
	expectError(t, "Verify, "+what, Verify(r, s, api.Proof{Challenge: c, Responses: w}), wanted)
	refusedProof(t, what, r, s, w, c, tape, wanted)
}

// refusedProof checks that Prove returns an error, and nothing else.
func refusedProof(t *testing.T, what string, r api.Rule, s api.Statement, w []api.Int, c api.Nat, tape api.Tape, wanted api.Errno) {
	t.Helper()
	p, behind, err := Prove(r, s, w, c, tape)
	if err != wanted || !sameProof(p, api.Proof{}) || !sameTape(behind, api.Tape{}) {
		t.Errorf("Prove, %s: got %s, %v and error %d, want error %d", what, short(p), behind, err, wanted)
	}
}

// P16.1, P16.2: the errors of Bounds come first in all functions: ErrForm, those of linear.Check, ErrRange, ErrLong.
func TestErrorsOfBounds(t *testing.T) {
	w, tape := ints(3, 2, -1), values(1, 1, 1)
	tooLong := api.Statement{Groups: mixed().Groups, Vars: []api.Variable{{}, {Bound: nat(1)}, {Bound: ones(128)}}}
	check := func(what string, r api.Rule, s api.Statement, wanted api.Errno) {
		t.Helper()
		refused(t, what, r, s, w, "\x01", tape, wanted)
		refused(t, what+" and other errors", r, s, []api.Int{{Neg: true}}, "\x00", api.Tape{At: -1}, wanted)
	}
	for _, bad := range invalid() {
		for _, s := range []api.Statement{mixed(), tooLong, wrongs()[0].s, wrongs()[3].s} {
			check("Challenges", api.Rule{Challenges: bad, Slack: nat(2)}, s, api.ErrForm)
			check("Slack", api.Rule{Challenges: nat(2), Slack: bad}, s, api.ErrForm)
			check("Slack", api.Rule{Challenges: nat(99), Slack: bad}, s, api.ErrForm)
		}
	}
	for _, x := range wrongs() {
		for _, r := range []api.Rule{rule(2, 2), rule(0, 0), rule(99, 2), {Challenges: ones(128), Slack: ones(128)}} {
			check("a statement", r, x.s, x.err)
		}
	}
	for _, r := range []api.Rule{{}, rule(1, 2), rule(0, 2), rule(2, 1), rule(2, 0), rule(12, 2), rule(256, 2)} {
		check("a rule", r, mixed(), api.ErrRange)
		check("a rule, and limits that are too long", r, tooLong, api.ErrRange)
	}
	for _, r := range []api.Rule{{}, rule(1, 2), rule(2, 1)} {
		check("a rule without variables", r, api.Statement{}, api.ErrRange)
	}
	check("a limit", rule(2, 2), tooLong, api.ErrLong)
}
