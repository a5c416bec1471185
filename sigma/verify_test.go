package sigma

import (
	"math/big"
	"math/rand"
	"slices"
	"testing"

	"domino/api"
	"domino/coins"
	"domino/integer"
)

// compareVerify compares Verify with its definition, and returns the error.
func compareVerify(t *testing.T, r api.Rule, s api.Statement, p api.Proof) api.Errno {
	t.Helper()
	err := Verify(r, s, p)
	if wanted := referenceVerify(r, s, p); err != wanted {
		t.Fatalf("Verify of %v, %s and %s: got error %d, want %d", r, short(s), short(p), err, wanted)
	}
	return err
}

// proof returns a proof with small numbers and one variable and equation.
func proof(first, c uint64, response int64) api.Proof {
	return api.Proof{First: nats(first), Challenge: nat(c), Responses: ints(response)}
}

// P16.2: all small proofs of the document's statements; the examples of the document are among them.
func TestVerifySmall(t *testing.T) {
	count := map[api.Errno]int{}
	for _, bound := range []uint64{0, 1, 4} {
		for _, r := range []api.Rule{rule(2, 2), rule(4, 3)} {
			for first := range uint64(25) {
				for c := range uint64(6) {
					for response := int64(-15); response <= 15; response++ {
						count[compareVerify(t, r, logarithm(bound), proof(first, c, response))]++
					}
				}
			}
		}
	}
	for _, e := range []api.Errno{api.OK, api.ErrRange, api.ErrGroup, api.ErrProof} {
		if count[e] < 100 {
			t.Errorf("error %d occurred %d times only", e, count[e])
		}
	}
	expectError(t, "the first example", Verify(rule(2, 2), logarithm(0), proof(8, 1, 10)), api.OK)
	expectError(t, "the second example", Verify(rule(2, 2), logarithm(4), proof(9, 1, -11)), api.OK)
}

// proven returns a proof of the statement mixed.
func proven(t *testing.T) api.Proof {
	t.Helper()
	p, _, err := Prove(rule(2, 2), mixed(), ints(3, 2, -1), "\x01", coins.Seed("a"))
	expectError(t, "Prove", err, api.OK)
	expectError(t, "Verify", Verify(rule(2, 2), mixed(), p), api.OK)
	return p
}

// changed returns a copy of a proof that was changed.
func changed(p api.Proof, change func(p *api.Proof)) api.Proof {
	p.First, p.Responses = slices.Clone(p.First), slices.Clone(p.Responses)
	change(&p)
	return p
}

// P16.2: every condition, in their order.
func TestErrorsOfVerify(t *testing.T) {
	p := proven(t)
	type change struct {
		what string
		edit func(p *api.Proof)
		err  api.Errno
	}
	changes := []change{
		{"no first messages", func(p *api.Proof) { p.First = nil }, api.ErrMany},
		{"a first message too few", func(p *api.Proof) { p.First = p.First[:len(p.First)-1] }, api.ErrMany},
		{"first messages too many", func(p *api.Proof) { p.First = append(p.First, nats(1, 1)...) }, api.ErrMany},
		{"no responses", func(p *api.Proof) { p.Responses = nil }, api.ErrMany},
		{"responses too many", func(p *api.Proof) { p.Responses = append(p.Responses, ints(0, 0)...) }, api.ErrMany},
		{"a challenge that is too great", func(p *api.Proof) { p.Challenge = nat(2) }, api.ErrRange},
		{"a long challenge", func(p *api.Proof) { p.Challenge = ones(128) }, api.ErrRange},
		{"a negative number", func(p *api.Proof) { p.Responses[0] = integer.Of(-1) }, api.ErrRange},
		{"a number that is not below the order", func(p *api.Proof) { p.Responses[0] = integer.Of(11) }, api.ErrRange},
		{"an integer that is too great", func(p *api.Proof) { p.Responses[1] = integer.Of(16) }, api.ErrRange},
		{"an integer that is too small", func(p *api.Proof) { p.Responses[2] = integer.Of(-28) }, api.ErrRange},
		{"a first message that is 0", func(p *api.Proof) { p.First[0] = "" }, api.ErrGroup},
		{"a first message that is not a unit", func(p *api.Proof) { p.First[1] = nat(22) }, api.ErrGroup},
		{"a first message of another order", func(p *api.Proof) { p.First[2] = nat(66) }, api.ErrGroup},
		{"a last first message that is not a unit", func(p *api.Proof) { p.First[3] = nat(7) }, api.ErrGroup},
		{"a first message that is too great", func(p *api.Proof) { p.First[3] = nat(78) }, api.ErrGroup},
		{"another challenge", func(p *api.Proof) { p.Challenge = "" }, api.ErrProof},
		{"another first message", func(p *api.Proof) { p.First[2] = nat(1) }, api.ErrProof},
		{"another last first message", func(p *api.Proof) { p.First[3] = nat(2) }, api.ErrProof},
		{"another response", func(p *api.Proof) { p.Responses[1] = integer.Of(15) }, api.ErrProof},
	}
	for _, bad := range invalid() {
		changes = append(changes, change{"a first message that is not canonical", func(p *api.Proof) { p.First[len(p.First)-1] = bad }, api.ErrForm})
		changes = append(changes, change{"a challenge that is not canonical", func(p *api.Proof) { p.Challenge = bad }, api.ErrForm})
	}
	for _, bad := range invalidInts() {
		changes = append(changes, change{"a response that is not valid", func(p *api.Proof) { p.Responses[len(p.Responses)-1] = bad }, api.ErrForm})
	}
	rank := map[api.Errno]int{api.ErrForm: 1, api.ErrMany: 2, api.ErrRange: 3, api.ErrGroup: 4, api.ErrProof: 5}
	for _, x := range changes {
		expectError(t, x.what, compareVerify(t, rule(2, 2), mixed(), changed(p, x.edit)), x.err)
		for _, y := range changes {
			if rank[y.err] >= rank[x.err] || x.err == api.ErrMany {
				continue
			}
			both := changed(p, func(p *api.Proof) { x.edit(p); y.edit(p) })
			expectError(t, x.what+", "+y.what, Verify(rule(2, 2), mixed(), both), y.err)
		}
	}
	expectError(t, "too many first messages, one of which is not canonical", Verify(rule(2, 2), mixed(), api.Proof{First: []api.Nat{"\x00"}}), api.ErrForm)
	expectError(t, "too many responses, one of which is not valid", Verify(rule(2, 2), mixed(), api.Proof{First: p.First, Responses: []api.Int{{Neg: true}}}), api.ErrForm)
	expectError(t, "too few responses, and a challenge that is too great", Verify(rule(2, 2), mixed(), api.Proof{First: p.First, Challenge: nat(2)}), api.ErrMany)
}

// P16.2: exponents of responses that are too long, behind the first messages.
func TestVerifyWithLongExponents(t *testing.T) {
	s := api.Statement{Groups: []api.Group{group(23, 11)}, Vars: variables(2), Equations: []api.Equation{
		{Target: nat(4), Terms: []api.Term{term(4, 0, 1)}},
		{Target: nat(1), Terms: []api.Term{{Base: nat(4), Coef: fromSigned(long(2, 1022, 0))}}},
	}}
	for response, wanted := range map[int64]api.Errno{-4: api.ErrLong, -3: api.ErrProof, 0: api.ErrProof, 3: api.ErrProof, 4: api.ErrLong, 6: api.ErrLong, 7: api.ErrRange} {
		p := api.Proof{First: nats(1, 1), Challenge: "\x01", Responses: ints(response)}
		expectError(t, "a long exponent", compareVerify(t, rule(2, 2), s, p), wanted)
		p.First[1] = nat(5)
		if wanted != api.ErrRange {
			wanted = api.ErrGroup
		}
		expectError(t, "a long exponent, and no element", compareVerify(t, rule(2, 2), s, p), wanted)
	}
}

// known returns a statement in groups with 128 bytes, its rule, a witness, a tape, the masks and a proof, calculated with another program.
func known() (api.Statement, api.Rule, []api.Int, api.Tape, []api.Int, api.Proof) {
	s := api.Statement{
		Groups: []api.Group{second(), {Modulus: ones(128)}},
		Vars:   []api.Variable{{}, {Bound: fromBig(long(2, 100, 0))}},
		Equations: []api.Equation{
			{Terms: []api.Term{term(4, 0, 1), term(9, 1, 3)}, Target: hexadecimal("adc356bda2ef584964e16d874e08a50f570d31c97e9a107e10333f1b55e71072f69551c72cef5883d51f68b491e8ee4d655d8056aeae112a9485bf56d6b5035a" +
				"c1b35d965c79311ea21261ddab8fdd8fec1170449942cfab30907ea3c4f5a25c147e184c59cedd5fcce5ef7ff09c0ce269e307a6c86c1861fa4dfb42c065a399")},
			{Group: 1, Terms: []api.Term{term(7, 1, 1)}, Target: hexadecimal("7da5bb334afed26252a12e49ca88a5ed69d7d9f17763cc0daaf49b9711ea156fc9c4bdc9a9b687fbc202d57565a6930a1af1a55c6b836436afc4bd47723d4c15" +
				"998d48d562f528daf9b3d35db0c1bdbee1617785ded26c4f5310c3dd30ec1bf2498ddbe41b8f542940c11b49474eacd09564d890f05a7b9693364a875e906842")},
		},
	}
	first := []api.Nat{
		hexadecimal("7ca6cac3e285c5e8d43412cdd55ac6aa9019ea83aa2c775c83c81e4807808f7418fac89dabee18b3898cb0ed1fe01da5a1bc92ab06705f80a6ce3a942c6b3e67" +
			"2e47a4ab3030090d9a442bb9d535c67fdf360fef66403c1ae38aa6452ce0fcce13fe36ddd4182fc0af3dba74caf18dbe5b9b5bec41aae6a0eec45792095b6981"),
		hexadecimal("3d1f4657b929e25bebca4881bbff57a7196f512d3e48ec859fc0f60c7276d45e019867b46ef0756ff4a6712aec507f23a519f639d4c06737e2ee5aa969c66aa5" +
			"3a6979fa3b759284b5d978ee0e27341bf7af81ef017eae52cb189954a8e22a53d170d852954926dff7f64b717655c001942b5815d9de51f1fb18902959a9f703"),
	}
	responses := []api.Int{
		integer.From(hexadecimal("151b005879b16e0b80521e0fa4257afab0308ac7f97eaafede1736e5886f56e6ca03e1fed98972aedb1c1b70c1b38ec44e967a7a8b1af855db1e3af7ed17aa34" +
			"1bec0d364b693c103b36df1bdac17d7324d6e275fa55c5e3b74b18e9e6f16bd78bf6b365d0de78ebcccbcb76dd6cda1684c141787d549edd7fea986a8f9808a9")),
		integer.From(hexadecimal("decb7cbce432d22b2af791a90ab5554e65004bc7290")),
	}
	masks := []api.Int{fromSigned(long(7, 360, 0)), fromSigned(long(11, 50, 0))}
	coin := new(big.Int).Add(long(11, 50, -1), long(2, 200, 0))
	return s, api.Rule{Challenges: fromBig(long(2, 80, 0)), Slack: fromBig(long(2, 20, 0))}, []api.Int{fromSigned(long(3, 640, 0)), integer.Neg(fromSigned(long(5, 40, 0)))},
		api.Tape{Values: []api.Nat{masks[0].Abs, fromBig(coin)}}, masks, api.Proof{First: first, Challenge: fromBig(long(3, 50, 0)), Responses: responses}
}

// P16.1, P16.2: a proof in groups with 128 bytes, calculated with another program.
func TestKnownProof(t *testing.T) {
	s, r, w, tape, masks, p := known()
	limits, responses, err := Bounds(r, s)
	if err != api.OK || !slices.Equal(limits, []api.Nat{second().Order, fromBig(long(2, 200, 0))}) || !slices.Equal(responses, []api.Nat{second().Order, hexadecimal("fffff0000000000000000000100000ffffffffffffffffffff")}) {
		t.Errorf("Bounds: got %x, %x and error %d", limits, responses, err)
	}
	got, first, behind, err := Commit(r, s, tape)
	if err != api.OK || !slices.Equal(got, masks) || !slices.Equal(first, p.First) || behind.At != 2 {
		t.Errorf("Commit: got %v, %x, %v and error %d", got, first, behind, err)
	}
	got, err = Respond(r, s, w, masks, p.Challenge)
	if err != api.OK || !slices.Equal(got, p.Responses) {
		t.Errorf("Respond: got %v and error %d", got, err)
	}
	made, behind, err := Prove(r, s, w, p.Challenge, tape)
	if err != api.OK || !sameProof(made, p) || behind.At != 2 {
		t.Errorf("Prove: got %s, %v and error %d", short(made), behind, err)
	}
	expectError(t, "Verify", Verify(r, s, p), api.OK)
	for i := range 2 {
		expectError(t, "another response", Verify(r, s, changed(p, func(p *api.Proof) { p.Responses[i], _ = integer.Add(p.Responses[i], integer.Of(1)) })), api.ErrProof)
		expectError(t, "another first message", Verify(r, s, changed(p, func(p *api.Proof) { p.First[i] = nat(4) })), api.ErrProof)
	}
}

// P16.2: proofs of statements of all sizes, and changes of them.
func TestVerifyOfRandomProofs(t *testing.T) {
	r := rand.New(rand.NewSource(4))
	for i, groups := range lists() {
		for range []int{60, 60, 60, 60, 60, 2}[i] {
			s, w := sample(r, groups, 300)
			some := rule(2+uint64(r.Intn(2)), 1000)
			p, _, err := referenceProve(some, s, w, nat(uint64(r.Intn(2))), coins.Seed(short(w)))
			expectError(t, "a proof", err, api.OK)
			expectError(t, "a proof", compareVerify(t, some, s, p), api.OK)
			for j, e := range s.Equations {
				compareVerify(t, some, s, changed(p, func(p *api.Proof) { p.First[j] = random(r, s.Groups[e.Group]) }))
			}
			for j := range w {
				compareVerify(t, some, s, changed(p, func(p *api.Proof) { p.Responses[j], _ = integer.Add(p.Responses[j], integer.Of(1)) }))
				compareVerify(t, some, s, changed(p, func(p *api.Proof) { p.Responses[j] = integer.Neg(p.Responses[j]) }))
			}
			compareVerify(t, some, s, changed(p, func(p *api.Proof) { p.Challenge = nat(uint64(r.Intn(3))) }))
		}
	}
}

// P16.3: from two accepted proofs with the same first messages, the powers of the differences of the responses multiply to the power of the target.
func TestDifferencesOfProofs(t *testing.T) {
	for _, s := range []api.Statement{logarithm(0), logarithm(4), {Groups: []api.Group{group(77, 0)}, Vars: variables(3), Equations: []api.Equation{equation(0, 4, term(2, 0, 4))}}} {
		r, pairs := rule(3, 2), 0
		masks, _, _ := Bounds(r, s)
		for first := range toBig(s.Groups[0].Modulus).Uint64() {
			var accepted []api.Proof
			for c := range uint64(3) {
				for x := -toBig(masks[0]).Int64(); x <= toBig(masks[0]).Int64(); x++ {
					if p := proof(first, c, x); Verify(r, s, p) == api.OK {
						accepted = append(accepted, p)
					}
				}
			}
			for _, p := range accepted {
				for _, q := range accepted {
					d, _ := integer.Sub(p.Responses[0], q.Responses[0])
					image := referenceImage(s.Groups[0], s.Equations[0].Terms, []api.Int{d})
					c := toBig(p.Challenge).Int64() - toBig(q.Challenge).Int64()
					target := api.Term{Base: s.Equations[0].Target, Coef: integer.Of(c)}
					if image != referenceImage(s.Groups[0], []api.Term{target}, ints(1)) {
						t.Errorf("%v and %v: got %x", p, q, image)
					}
					pairs++
				}
			}
		}
		if pairs < 30 {
			t.Errorf("there were %d pairs only", pairs)
		}
	}
}
