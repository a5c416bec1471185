package hash

import (
	"crypto/hmac"
	"crypto/sha256"
	"encoding/hex"
	"math/rand"
	"strings"
	"testing"
)

// random returns n random bytes.
func random(r *rand.Rand, n int) string {
	b := make([]byte, n)
	r.Read(b)
	return string(b)
}

// checkSum compares Sum with the standard library.
func checkSum(t *testing.T, s string) {
	t.Helper()
	wanted := sha256.Sum256([]byte(s))
	if got := Sum(s); got != string(wanted[:]) {
		t.Fatalf("Sum of %d bytes: got %x, want %x", len(s), got, wanted)
	}
}

// checkMac compares Mac with the standard library.
func checkMac(t *testing.T, key, s string) {
	t.Helper()
	h := hmac.New(sha256.New, []byte(key))
	h.Write([]byte(s))
	if got, wanted := Mac(key, s), string(h.Sum(nil)); got != wanted {
		t.Fatalf("Mac of %d bytes for a key of %d bytes: got %x, want %x", len(s), len(key), got, wanted)
	}
}

// P5.1: the vectors of FIPS 180-4 and of the document.
func TestSumExamples(t *testing.T) {
	for _, c := range []struct{ s, wanted string }{
		{"", "e3b0c44298fc1c149afbf4c8996fb92427ae41e4649b934ca495991b7852b855"},
		{"abc", "ba7816bf8f01cfea414140de5dae2223b00361a396177a9cb410ff61f20015ad"},
		{"abcdbcdecdefdefgefghfghighijhijkijkljklmklmnlmnomnopnopq", "248d6a61d20638b8e5c026930c3e6039a33ce45964ff2167f6ecedd419db06c1"},
		{"abcdefghbcdefghicdefghijdefghijkefghijklfghijklmghijklmnhijklmnoijklmnopjklmnopqklmnopqrlmnopqrsmnopqrstnopqrstu", "cf5b16a778af8380036ce59e7b0492370b249b11e8f07a51afac45037afee9d1"},
		{strings.Repeat("a", 1000000), "cdc76e5c9914fb9281a1c7e284d73e67f1809a48a497200e046d39ccc7112cd0"},
	} {
		if got := Hex(Sum(c.s)); got != c.wanted {
			t.Errorf("hash of %d bytes: got %s, want %s", len(c.s), got, c.wanted)
		}
	}
}

// P5.1: every length around the first blocks, with extreme and with random bytes.
func TestSumOfAllLengths(t *testing.T) {
	r := rand.New(rand.NewSource(1))
	for n := range 400 {
		checkSum(t, strings.Repeat("\x00", n))
		checkSum(t, strings.Repeat("\xff", n))
		checkSum(t, strings.Repeat("\x80", n))
		for range 20 {
			checkSum(t, random(r, n))
		}
	}
	for _, n := range []int{1 << 13, 1<<16 - 1, 1 << 16, 1<<20 + 55, 1<<21 + 56} {
		checkSum(t, random(r, n))
	}
}

// P5.1: strings are bytes, whether or not they are characters.
func TestSumOfBytesThatAreNoCharacters(t *testing.T) {
	for b := range 256 {
		checkSum(t, string([]byte{byte(b)}))
		checkSum(t, string([]byte{'a', byte(b), 0}))
	}
	checkSum(t, "é€😀")
}

// P5.1: lengths whose number of bits needs more than 32 bits are too long to be hashed in a test.
func TestPadding(t *testing.T) {
	for _, c := range []struct {
		n      int
		zeros  int
		length string
	}{
		{0, 55, "0000000000000000"}, {1, 54, "0000000000000008"}, {31, 24, "00000000000000f8"}, {32, 23, "0000000000000100"},
		{54, 1, "00000000000001b0"}, {55, 0, "00000000000001b8"}, {56, 63, "00000000000001c0"}, {57, 62, "00000000000001c8"},
		{63, 56, "00000000000001f8"}, {64, 55, "0000000000000200"}, {65, 54, "0000000000000208"}, {119, 0, "00000000000003b8"}, {120, 63, "00000000000003c0"},
		{1<<29 - 1, 56, "00000000fffffff8"}, {1 << 29, 55, "0000000100000000"}, {1<<29 + 55, 0, "00000001000001b8"}, {1<<31 - 1, 56, "00000003fffffff8"},
	} {
		wanted := "80" + strings.Repeat("00", c.zeros) + c.length
		if got := hex.EncodeToString(padding(c.n)); got != wanted {
			t.Errorf("padding of %d bytes: got %s, want %s", c.n, got, wanted)
		}
	}
}

// P5.1.
func TestHex(t *testing.T) {
	for _, c := range []struct{ s, wanted string }{
		{"", ""}, {"\x00", "00"}, {"\x0f\xf0", "0ff0"}, {"\x01\x23\x45\x67\x89\xab\xcd\xef", "0123456789abcdef"}, {"\xff\x00\xa0", "ff00a0"}, {"az", "617a"}, {"é", "c3a9"},
	} {
		if got := Hex(c.s); got != c.wanted {
			t.Errorf("Hex of %q: got %q, want %q", c.s, got, c.wanted)
		}
	}
	for b := range 256 {
		s := string([]byte{byte(b)})
		if got := Hex(s); got != hex.EncodeToString([]byte(s)) {
			t.Errorf("Hex of the byte %d: got %q", b, got)
		}
	}
	r := rand.New(rand.NewSource(2))
	for range 200 {
		s := random(r, r.Intn(200))
		if got := Hex(s); got != hex.EncodeToString([]byte(s)) {
			t.Fatalf("Hex of %x: got %s", s, got)
		}
	}
}

// P5.2: the vectors of RFC 4231 and of the document.
func TestMacExamples(t *testing.T) {
	counted := make([]byte, 25)
	for i := range counted {
		counted[i] = byte(i + 1)
	}
	long := strings.Repeat("\xaa", 131)
	for _, c := range []struct{ key, s, wanted string }{
		{strings.Repeat("\x0b", 20), "Hi There", "b0344c61d8db38535ca8afceaf0bf12b881dc200c9833da726e9376c2e32cff7"},
		{"Jefe", "what do ya want for nothing?", "5bdcc146bf60754e6a042426089575c75a003f089d2739839dec58b964ec3843"},
		{strings.Repeat("\xaa", 20), strings.Repeat("\xdd", 50), "773ea91e36800e46854db8ebd09181a72959098b3ef8c122d9635514ced565fe"},
		{string(counted), strings.Repeat("\xcd", 50), "82558a389a443c0ea4cc819899f2083a85f0faa3e578f8077a2e3ff46729665b"},
		{long, "Test Using Larger Than Block-Size Key - Hash Key First", "60e431591ee0b67f0d8a26aacbf5b77f8e0bc6213728c5140546040f0ee37f54"},
		{long, "This is a test using a larger than block-size key and a larger than block-size data. The key needs to be hashed before being used by the HMAC algorithm.", "9b09ffa71b942fcb27635fbcd5b0e944bfdc63644f0713938a7f51535c3a35e2"},
		{"", "", "b613679a0814d9ec772f95d778c35fc5ff1697c493715653c6c712144292c5ad"},
	} {
		if got := Hex(Mac(c.key, c.s)); got != c.wanted {
			t.Errorf("code of %q for %q: got %s, want %s", c.s, c.key, got, c.wanted)
		}
	}
}

// P5.2: every length of a key around that of a block.
func TestMacOfAllLengths(t *testing.T) {
	r := rand.New(rand.NewSource(3))
	for n := range 200 {
		checkMac(t, strings.Repeat("\x00", n), "")
		checkMac(t, strings.Repeat("\xff", n), "message")
		for range 5 {
			checkMac(t, random(r, n), random(r, r.Intn(200)))
			checkMac(t, random(r, r.Intn(130)), random(r, n))
		}
	}
	checkMac(t, random(r, 1<<16), random(r, 1<<16))
}

// P5.2: a key is filled up with zero bytes, and only a key of more than 64 bytes is replaced by its hash.
func TestMacOfEqualKeys(t *testing.T) {
	if Mac("key", "s") != Mac("key\x00", "s") {
		t.Error("a zero byte behind a short key changes the code")
	}
	full := strings.Repeat("k", 64)
	if Mac(full, "s") == Mac(Sum(full), "s") {
		t.Error("a key of 64 bytes is replaced by its hash")
	}
	if Mac(full+"k", "s") != Mac(Sum(full+"k"), "s") {
		t.Error("a key of 65 bytes is not replaced by its hash")
	}
	if Mac("a", "bc") == Mac("ab", "c") {
		t.Error("the key runs into the message")
	}
}

// P5.1 and P5.2: a result depends on the arguments only.
func TestRepeatedCalls(t *testing.T) {
	s := strings.Repeat("abc", 50)
	sum, code := Sum(s), Mac(s, s)
	Sum("another string")
	Mac("another key", "another string")
	if Sum(s) != sum || Mac(s, s) != code {
		t.Error("a repeated call returns something else")
	}
}
