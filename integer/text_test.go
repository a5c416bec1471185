package integer

import (
	"math/big"
	"math/rand"
	"strings"
	"testing"

	"domino/api"
)

// P2.4.
func TestText(t *testing.T) {
	check := func(a api.Int) {
		wanted := toBig(a).String()
		if got, err := Text(a); got != wanted || err != api.OK {
			t.Fatalf("Text(%v): got %q and error %d, want %q", a, got, err, wanted)
		}
		if got, err := Parse(wanted); got != a || err != api.OK {
			t.Fatalf("Parse(%q): got %v and error %d, want %v", wanted, got, err, a)
		}
	}
	for n := int64(-300); n <= 300; n++ {
		check(Of(n))
	}
	for _, a := range edges() {
		check(a)
	}
	r := rand.New(rand.NewSource(6))
	for range 1000 {
		check(random(r, 128))
	}
	for _, a := range invalid() {
		if got, err := Text(a); got != "" || err != api.ErrForm {
			t.Errorf("Text(%v): got %q and error %d, want ErrForm", a, got, err)
		}
	}
}

// P2.4.
func TestParseOfWrongTexts(t *testing.T) {
	for _, s := range []string{"", "-", "-0", "--1", "---", "-00", "00", "-01", "01", "+1", "-+1", "+-1", " -1", "- 1", "-1 ", "1-", "-1-", "0-", "-a", "-\x00", "−1", "-" + strings.Repeat("9", 400) + "a", "-0" + strings.Repeat("9", 400)} {
		got, err := Parse(s)
		refused(t, s, got, err, api.ErrSyntax)
	}
}

// P2.4.
func TestParseOfLongIntegers(t *testing.T) {
	limit := new(big.Int).Lsh(big.NewInt(1), 1024)
	most := new(big.Int).Sub(limit, big.NewInt(1)).String()
	for _, sign := range []string{"", "-"} {
		if got, err := Parse(sign + most); got != (api.Int{Neg: sign == "-", Abs: ones(128)}) || err != api.OK {
			t.Errorf("Parse of %s(2^1024 - 1): got %v and error %d", sign, got, err)
		}
		for _, s := range []string{limit.String(), strings.Repeat("9", 309), strings.Repeat("1", 1<<20)} {
			got, err := Parse(sign + s)
			refused(t, sign+s[:20], got, err, api.ErrLong)
		}
	}
}

// P2.4: a string that Parse accepts is the text of its result.
func TestParsedStringsAreTexts(t *testing.T) {
	r := rand.New(rand.NewSource(7))
	alphabet := "0012-+ "
	for range 50000 {
		b := make([]byte, r.Intn(6))
		for i := range b {
			b[i] = alphabet[r.Intn(len(alphabet))]
		}
		a, err := Parse(string(b))
		if err != api.OK {
			refused(t, string(b), a, err, api.ErrSyntax)
			continue
		}
		if text, err := Text(a); text != string(b) || err != api.OK {
			t.Fatalf("Parse(%q) is %v, the text of which is %q", b, a, text)
		}
	}
}
