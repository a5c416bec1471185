package natural

import (
	"math/big"
	"math/rand"
	"strings"
	"testing"

	"domino/api"
)

// P1.3.
func TestText(t *testing.T) {
	check := func(a api.Nat) {
		wanted := toBig(a).String()
		if got, err := Text(a); got != wanted || err != api.OK {
			t.Fatalf("Text(%x): got %q and error %d, want %q", a, got, err, wanted)
		}
		if got, err := Parse(wanted); got != a || err != api.OK {
			t.Fatalf("Parse(%q): got %x and error %d, want %x", wanted, got, err, a)
		}
	}
	for n := range uint64(2000) {
		check(Of(n))
	}
	for _, a := range edges() {
		check(a)
	}
	r := rand.New(rand.NewSource(7))
	for range 2000 {
		check(random(r, 128))
	}
	for places := range int64(308) {
		power := new(big.Int).Exp(big.NewInt(10), big.NewInt(places), nil)
		check(fromBig(power))
		check(fromBig(new(big.Int).Sub(power, big.NewInt(1))))
	}
}

// P1.3.
func TestTextOfOtherStrings(t *testing.T) {
	for _, a := range invalid() {
		if got, err := Text(a); got != "" || err != api.ErrForm {
			t.Errorf("Text(%x): got %q and error %d, want ErrForm", a, got, err)
		}
	}
}

// P1.3.
func TestParseOfWrongTexts(t *testing.T) {
	many := strings.Repeat("1", 1<<20)
	for _, s := range []string{
		"", "00", "01", "07", "-1", "-", "+1", " 1", "1 ", "1a", "a", "/", ":", "1_000", "0x10", "1.0", "1\x00", "\x00", "\xff", "1\n", "１",
		"0" + many, many + "a", "a" + many, strings.Repeat("0", 400), strings.Repeat("9", 400) + "-", "0" + strings.Repeat("9", 400),
	} {
		got, err := Parse(s)
		if got != "" || err != api.ErrSyntax {
			t.Errorf("Parse(%.20q): got %x and error %d, want ErrSyntax", s, got, err)
		}
	}
}

// P1.3.
func TestParseOfLongNumbers(t *testing.T) {
	limit := new(big.Int).Lsh(big.NewInt(1), 1024)
	most := new(big.Int).Sub(limit, big.NewInt(1)).String()
	if got, err := Parse(most); got != ones(128) || err != api.OK {
		t.Errorf("Parse of 2^1024 - 1: got %x and error %d", got, err)
	}
	ten := "1" + strings.Repeat("0", 308)
	if got, err := Parse(ten); got != fromBig(new(big.Int).Exp(big.NewInt(10), big.NewInt(308), nil)) || err != api.OK {
		t.Errorf("Parse of 10^308: got %x and error %d", got, err)
	}
	for _, s := range []string{
		limit.String(), strings.Repeat("9", 309), ten + "0", strings.Repeat("9", 310), strings.Repeat("1", 1<<20),
	} {
		if got, err := Parse(s); got != "" || err != api.ErrLong {
			t.Errorf("Parse(%.20q): got %x and error %d, want ErrLong", s, got, err)
		}
	}
}
