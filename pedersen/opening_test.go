package pedersen

import (
	"math/big"
	"math/rand"
	"slices"
	"testing"

	"domino/api"
	"domino/coins"
	"domino/integer"
)

// expectOpening checks the opening of a sum or a product, which may be too long.
func expectOpening(t *testing.T, what string, k api.Pedersen, got api.Opening, err api.Errno, value, random *big.Int) {
	t.Helper()
	if value.BitLen() > 1024 || random.BitLen() > 1024 {
		refused(t, what, k, got, err, api.ErrLong)
		return
	}
	expect(t, what, k, got, err, api.Opening{Value: lowered(k, value), Random: lowered(k, random)})
}

// sumAndTimes checks Sum of two openings, and Times of the first one by the value of the second one.
func sumAndTimes(t *testing.T, k api.Pedersen, a, b api.Opening) {
	t.Helper()
	value, random := new(big.Int).Add(toSigned(a.Value), toSigned(b.Value)), new(big.Int).Add(toSigned(a.Random), toSigned(b.Random))
	o, err := Sum(k, a, b)
	expectOpening(t, "Sum", k, o, err, value, random)
	value.Mul(toSigned(a.Value), toSigned(b.Value))
	random.Mul(toSigned(a.Random), toSigned(b.Value))
	o, err = Times(k, a, b.Value)
	expectOpening(t, "Times", k, o, err, value, random)
}

// P14.3: all small openings.
func TestSumAndTimesSmall(t *testing.T) {
	for _, k := range []api.Pedersen{key(7, 3, 2, 4), key(23, 11, 4, 3), key(77, 0, 4, 9)} {
		for m := int64(-12); m <= 12; m++ {
			for r := int64(-12); r <= 12; r++ {
				for n := int64(-12); n <= 12; n++ {
					sumAndTimes(t, k, open(m, r), open(n, m*7-r))
				}
			}
		}
	}
}

// P14.3.
func TestSumAndTimesLong(t *testing.T) {
	r := rand.New(rand.NewSource(4))
	for _, k := range keys() {
		for _, bits := range []int{10, 100, 511, 512, 600, 1024} {
			for range 20 {
				sumAndTimes(t, k, randomOpening(r, bits), randomOpening(r, bits))
			}
		}
	}
}

// P14.3: results with 128 bytes, and with more.
func TestLongSumsAndProducts(t *testing.T) {
	most := fromSigned(toBig(ones(128)))
	half := fromSigned(long(2, 1023, 0))
	list := []api.Int{{}, integer.Of(1), integer.Of(-1), integer.Of(2), integer.Of(-2), most, integer.Neg(most), half, integer.Neg(half), fromSigned(long(2, 1023, -1)), fromSigned(long(2, 512, 0)), fromSigned(long(2, 511, 0))}
	for _, k := range []api.Pedersen{key(23, 11, 4, 3), key(18446744073709551557, 5594472617641, 16707000705174350219, 5407617574896090429), key(77, 0, 4, 9)} {
		for _, a := range list {
			for _, b := range list {
				sumAndTimes(t, k, api.Opening{Value: a}, api.Opening{Value: b})
				sumAndTimes(t, k, api.Opening{Random: a}, api.Opening{Value: b, Random: b})
				sumAndTimes(t, k, api.Opening{Value: a, Random: b}, api.Opening{Value: b, Random: a})
			}
		}
	}
}

// P14.3: the example of the document, and results that were calculated by hand.
func TestOpeningExamples(t *testing.T) {
	k, w := key(23, 11, 4, 3), key(77, 0, 4, 9)
	o, err := Times(k, open(2, 1), integer.Of(-3))
	expect(t, "Times", k, o, err, open(5, 8))
	o, err = Sum(k, open(9, 8), open(5, -10))
	expect(t, "Sum", k, o, err, open(3, 9))
	o, err = Sum(w, open(9, 8), open(5, -10))
	expect(t, "Sum", w, o, err, open(14, -2))
	o, err = Times(w, open(2, 1), integer.Of(-3))
	expect(t, "Times", w, o, err, open(-6, -3))
}

// P14.3: ErrForm for all numbers comes first, then the key, then ErrLong.
func TestOpeningErrors(t *testing.T) {
	most := fromSigned(toBig(ones(128)))
	great := api.Opening{Value: most, Random: most}
	valid := append(keys(), misformed()...)
	for _, k := range append(valid, invalidKeys()...) {
		for _, bad := range invalidOpenings() {
			o, err := Sum(k, bad, great)
			refused(t, "the first opening", k, o, err, api.ErrForm)
			o, err = Sum(k, great, bad)
			refused(t, "the second opening", k, o, err, api.ErrForm)
			o, err = Times(k, bad, integer.Of(2))
			refused(t, "the opening", k, o, err, api.ErrForm)
		}
		for _, bad := range invalidInts() {
			o, err := Times(k, great, bad)
			refused(t, "the factor", k, o, err, api.ErrForm)
		}
	}
	for _, c := range []struct {
		list   []api.Pedersen
		wanted api.Errno
	}{{invalidKeys(), api.ErrForm}, {misformed(), api.ErrGroup}, {keys(), api.ErrLong}} {
		for _, k := range c.list {
			for _, a := range []api.Opening{great, {Value: most}, {Random: most}} {
				o, err := Sum(k, a, a)
				refused(t, "Sum", k, o, err, c.wanted)
				o, err = Times(k, a, most)
				refused(t, "Times", k, o, err, c.wanted)
			}
		}
	}
}

// drawn is what Random returns.
type drawn struct {
	commitment api.Nat
	opening    api.Opening
	tape       api.Tape
	err        api.Errno
}

// drawing returns what Random returns.
func drawing(k api.Pedersen, m api.Int, t api.Tape) drawn {
	c, o, behind, err := Random(k, m, t)
	return drawn{c, o, behind, err}
}

// referenceDrawing returns what Random should return for a well-formed key, a valid integer and a well-formed tape.
func referenceDrawing(k api.Pedersen, m api.Int, t api.Tape) drawn {
	bound := k.Group.Order
	if bound == "" {
		bound = k.Group.Modulus
	}
	r, behind, err := coins.Below(t, bound)
	if err != api.OK {
		return drawn{err: err}
	}
	o := api.Opening{Value: lowered(k, toSigned(m)), Random: fromSigned(toBig(r))}
	return drawn{commitment(k, o), o, behind, api.OK}
}

// sameDrawing checks what Random returns.
func sameDrawing(t *testing.T, k api.Pedersen, m api.Int, tape api.Tape, wanted drawn) {
	t.Helper()
	got := drawing(k, m, tape)
	if got.commitment != wanted.commitment || got.opening != wanted.opening || !sameTape(got.tape, wanted.tape) || got.err != wanted.err {
		t.Fatalf("Random of %.40v from %.60v with the key %.40v: got %.60v, want %.60v", m, tape, k, got, wanted)
	}
}

// P14.3: all coins of small keys.
func TestRandomSmall(t *testing.T) {
	for _, k := range small() {
		for r := range uint64(26) {
			for m := int64(-30); m <= 30; m++ {
				for _, tape := range []api.Tape{coins.Values(nat(r)), {Values: nats(99, 1, r, 5), At: 2}} {
					sameDrawing(t, k, integer.Of(m), tape, referenceDrawing(k, integer.Of(m), tape))
				}
			}
		}
	}
}

// P14.3.
func TestRandomLong(t *testing.T) {
	r := rand.New(rand.NewSource(5))
	for _, k := range keys() {
		for _, tape := range []api.Tape{coins.Seed("a"), {Values: nats(2, 1), Seed: "a seed", At: 1}, {Values: nats(2, 1), Seed: "a seed", At: 7}} {
			for range 3 {
				m := randomInt(r, 1024)
				sameDrawing(t, k, m, tape, referenceDrawing(k, m, tape))
			}
		}
	}
}

// P14.3: the coins below the bound are the ones that are taken, and each one only once.
func TestRandomExamples(t *testing.T) {
	k, w := key(23, 11, 4, 3), key(77, 0, 4, 9)
	// 4^2 3^7 is 4^30, that is 4^8
	tape := coins.Values(nats(7, 3)...)
	sameDrawing(t, k, integer.Of(13), tape, drawn{nat(9), open(2, 7), api.Tape{Values: tape.Values, At: 1}, api.OK})
	sameDrawing(t, k, integer.Of(-9), tape, drawn{nat(9), open(2, 7), api.Tape{Values: tape.Values, At: 1}, api.OK})
	// 9^2 / 4 is 1 modulo 77
	tape = coins.Values(nat(2))
	sameDrawing(t, w, integer.Of(-1), tape, drawn{nat(1), open(-1, 2), api.Tape{Values: tape.Values, At: 1}, api.OK})
	sameDrawing(t, k, integer.Of(1), coins.Values(nat(11)), drawn{err: api.ErrRange})
	sameDrawing(t, w, integer.Of(1), coins.Values(nat(77)), drawn{err: api.ErrRange})
	tape = coins.Values(nat(76))
	sameDrawing(t, w, integer.Of(1), tape, drawn{commitment(w, open(1, 76)), open(1, 76), api.Tape{Values: tape.Values, At: 1}, api.OK})
}

// P14.3: ErrForm comes first, then the key, then the coin.
func TestRandomErrors(t *testing.T) {
	none := api.Tape{}
	for _, k := range append(append(keys(), misformed()...), invalidKeys()...) {
		for _, tape := range malformed() {
			sameDrawing(t, k, integer.Of(1), tape, drawn{err: api.ErrForm})
		}
		for _, bad := range invalidInts() {
			sameDrawing(t, k, bad, none, drawn{err: api.ErrForm})
		}
	}
	for _, k := range invalidKeys() {
		sameDrawing(t, k, integer.Of(1), none, drawn{err: api.ErrForm})
	}
	for _, k := range misformed() {
		sameDrawing(t, k, integer.Of(1), none, drawn{err: api.ErrGroup})
		sameDrawing(t, k, integer.Of(1), coins.Seed("a"), drawn{err: api.ErrGroup})
	}
	for _, k := range keys() {
		bound := k.Group.Order
		if bound == "" {
			bound = k.Group.Modulus
		}
		sameDrawing(t, k, integer.Of(1), none, drawn{err: api.ErrCoins})
		sameDrawing(t, k, integer.Of(1), api.Tape{Values: nats(1), At: 1}, drawn{err: api.ErrCoins})
		sameDrawing(t, k, integer.Of(1), api.Tape{Seed: "a", At: 2147483647}, drawn{err: api.ErrCoins})
		for _, r := range []api.Nat{bound, ones(128)} {
			if r == bound || k.Group.Modulus != ones(128) {
				sameDrawing(t, k, integer.Of(1), api.Tape{Values: []api.Nat{r}, Seed: "a"}, drawn{err: api.ErrRange})
			}
		}
	}
}

// P14.3: the tape behind the coin shares no memory with the tape, which stays as it is.
func TestRandomSharesNoMemory(t *testing.T) {
	values := nats(3, 4, 5, 6)
	tape := api.Tape{Values: values[:2:3]}
	_, _, behind, _ := Random(key(23, 11, 4, 3), integer.Of(2), tape)
	behind.Values[0] = nat(9)
	_ = append(behind.Values, nat(9))
	if !slices.Equal(values, nats(3, 4, 5, 6)) {
		t.Errorf("the values of the tape are %x now", values)
	}
	_, _, behind, _ = Random(key(23, 11, 4, 3), integer.Of(2), tape)
	values[1] = nat(9)
	if !slices.Equal(behind.Values, nats(3, 4)) {
		t.Errorf("the values of the tape behind the coin are %x now", behind.Values)
	}
}

// P14.4: the sum of two openings opens the product of their commitments, and the multiple the power.
func TestSumAndTimesOpen(t *testing.T) {
	r := rand.New(rand.NewSource(6))
	for _, k := range keys() {
		for range 5 {
			a, b, by := randomOpening(r, 500), randomOpening(r, 500), randomInt(r, 500)
			c, _ := Commit(k, a)
			d, _ := Commit(k, b)
			product, _ := Add(k, c, d)
			power, _ := Scale(k, c, by)
			sum, _ := Sum(k, a, b)
			multiple, _ := Times(k, a, by)
			if !Opens(k, product, sum) || !Opens(k, power, multiple) {
				t.Errorf("%v or %v does not open a result with the key %x", sum, multiple, k)
			}
		}
	}
}

// P14.4: a commitment has exactly one reduced opening for each value, as each generator of a group of prime order generates it.
func TestOpeningsOfEachValue(t *testing.T) {
	for _, k := range []api.Pedersen{key(7, 3, 2, 4), key(23, 11, 4, 3), key(23, 11, 12, 9), key(31, 5, 16, 8), key(47, 23, 4, 2)} {
		q := toBig(k.Group.Order).Int64()
		for _, c := range members(k.Group) {
			for m := range q {
				count := 0
				for r := range q {
					if Opens(k, c, open(m, r)) {
						count++
					}
				}
				if count != 1 {
					t.Fatalf("%x has %d openings with the value %d and the key %x", c, count, m, k)
				}
			}
		}
	}
}

// P14.4: two openings with different values of the same commitment yield the logarithm of G to the base H.
func TestTwoOpeningsYieldTheLogarithm(t *testing.T) {
	k := key(47, 23, 4, 2)
	q := toBig(k.Group.Order)
	for _, c := range members(k.Group) {
		var randoms []int64
		for m := range q.Int64() {
			for r := range q.Int64() {
				if Opens(k, c, open(m, r)) {
					randoms = append(randoms, r)
				}
			}
			// G^m H^r = H^r0 for the opening with the value 0, so G = H^((r0 - r) / m)
			if m > 0 {
				log := new(big.Int).ModInverse(big.NewInt(m), q)
				log.Mul(log, big.NewInt(randoms[0]-randoms[m])).Mod(log, q)
				if raised(k.Group, k.H, fromSigned(log)).Cmp(toBig(k.G)) != 0 {
					t.Fatalf("%v is not the logarithm of G", log)
				}
			}
		}
	}
}
