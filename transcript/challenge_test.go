package transcript

import (
	"encoding/binary"
	"math/big"
	"math/rand"
	"strings"
	"testing"

	"domino/api"
	"domino/natural"
)

// fromBig returns the canonical string of a number, of any length.
func fromBig(n *big.Int) api.Nat {
	return api.Nat(n.Bytes())
}

// power returns 2^bits plus a small number.
func power(bits uint, more int64) *big.Int {
	n := new(big.Int).Lsh(big.NewInt(1), bits)
	return n.Add(n, big.NewInt(more))
}

// referenceChallenge returns the challenge of a state for a bound that is not 0, as the document defines it.
func referenceChallenge(state string, bound *big.Int) *big.Int {
	n := (bound.BitLen() + 7) / 8
	var b []byte
	for k := uint64(0); len(b) < n+8; k++ {
		b = append(b, reference('C', state, string(binary.BigEndian.AppendUint64(nil, k)))...)
	}
	x := new(big.Int).SetBytes(b[:n+8])
	return x.Mod(x, bound)
}

// challenged checks the challenge of a state for a bound, which is less than it.
func challenged(t *testing.T, state string, bound *big.Int) {
	t.Helper()
	got, err := Challenge(state, fromBig(bound))
	if wanted := fromBig(referenceChallenge(state, bound)); got != wanted || err != api.OK {
		t.Fatalf("challenge of %.40x for %x: got %x and error %d, want %x", state, bound, got, err, wanted)
	}
	if natural.Cmp(got, fromBig(bound)) >= 0 {
		t.Fatalf("challenge of %.40x for %x: %x is not less", state, bound, got)
	}
}

// P12.1 and P12.2: bounds of all lengths.
func TestChallenge(t *testing.T) {
	states := append(texts()[:13], New("a"), New("b"), New("c"))
	for _, state := range states {
		for n := int64(1); n < 300; n++ {
			challenged(t, state, big.NewInt(n))
		}
		for bytes := range uint(128) {
			for _, more := range []int64{0, 1, 5} {
				challenged(t, state, power(8*bytes, more))
			}
			challenged(t, state, power(8*bytes+8, -1))
			challenged(t, state, power(8*bytes+7, 3))
		}
	}
	r := rand.New(rand.NewSource(1))
	for range 2000 {
		bound := new(big.Int).Rand(r, power(uint(1+r.Intn(1024)), -1))
		challenged(t, New(bound.String()), bound.Add(bound, big.NewInt(1)))
	}
}

// P12.1: the bytes of a challenge, or of its high part, may begin with zero bytes.
func TestChallengesOfZeroBytes(t *testing.T) {
	high, low := 0, 0
	for i := range 5000 {
		state := New(big.NewInt(int64(i)).String())
		bytes := reference('C', state, strings.Repeat("\x00", 8))
		if bytes[0] == 0 {
			high++
		}
		if bytes[8] == 0 {
			low++
		}
		if bytes[0] == 0 || bytes[8] == 0 {
			challenged(t, state, big.NewInt(251))
			challenged(t, state, power(64, -59))
			challenged(t, state, power(1000, 9))
		}
	}
	if high == 0 || low == 0 {
		t.Errorf("%d and %d states with zero bytes", high, low)
	}
}

// P12.1: challenges that were calculated elsewhere, of the last one of the known states.
func TestKnownChallenges(t *testing.T) {
	state, _ := new(big.Int).SetString("d28a3e1ddcde6f69a17d9c6c538c0fd37b52239d55dd09887d4f41b6ec97c72b", 16)
	for _, c := range []struct {
		state  string
		bound  *big.Int
		wanted string
	}{
		{string(state.Bytes()), big.NewInt(2), "1"}, {string(state.Bytes()), big.NewInt(3), "2"}, {string(state.Bytes()), big.NewInt(256), "6c"},
		{string(state.Bytes()), big.NewInt(257), "98"}, {string(state.Bytes()), big.NewInt(65521), "4807"},
		{string(state.Bytes()), power(64, -59), "24111374ae7b0de1"}, {string(state.Bytes()), power(128, 0), "6cc3acc5e1625837fca117a2a34ef7f6"},
		{string(state.Bytes()), power(1024, -1), "9f6cc3acc5e1625837fca117a2a34ef7f6697f2a0ac3cbe25d6ddca93509e345b74036e4f5b623fa25d3a2a4ffd1f361ab9d9b5052383cd3ecf04ac0d058c3bfc24fb8b4ddc4fc0069c000f67c7682e0af6f4e7553ef9ff483e4091b6856aad6623ed4b1ccfd68df64409c281a636e04804f35fa19786aff307230f6a1db9a51"},
		{"", big.NewInt(1000), "b7"},
		{"", power(1023, 0), "7627baea757a10d805f87ecf254e63dff955267ddb38c39e1ee58e1143c3168bc9b7c32c5e1d4e7e3119e8a42a0c506d2818f3d0781ff9db933f17b8ffa1f143addb17f0cba900c583b52ae5934e1b349dc31032c63090b4a7a055824332270e9d91c81e3d4718658f4aa625d825b1450ff848e6bf936d8a0de7459c9cf7384f"},
	} {
		wanted, _ := new(big.Int).SetString(c.wanted, 16)
		if got, err := Challenge(c.state, fromBig(c.bound)); got != fromBig(wanted) || err != api.OK {
			t.Errorf("challenge of %x for %x: got %x and error %d, want %s", c.state, c.bound, got, err, c.wanted)
		}
	}
}

// P12.1: the second example of the document, and the errors.
func TestChallengeErrors(t *testing.T) {
	for _, state := range texts() {
		if got, err := Challenge(state, "\x01"); got != "" || err != api.OK {
			t.Errorf("challenge of %.20q for 1: got %x and error %d", state, got, err)
		}
		if got, err := Challenge(state, ""); got != "" || err != api.ErrZero {
			t.Errorf("challenge of %.20q for 0: got %x and error %d, want ErrZero", state, got, err)
		}
		for _, bad := range []api.Nat{"\x00", "\x00\x05", "\x00\x00", api.Nat(strings.Repeat("\xff", 129)), api.Nat(strings.Repeat("\x01", 1000)), "\x00" + api.Nat(strings.Repeat("\xff", 128))} {
			if got, err := Challenge(state, bad); got != "" || err != api.ErrForm {
				t.Errorf("challenge of %.20q for %.20x: got %x and error %d, want ErrForm", state, bad, got, err)
			}
		}
	}
}
