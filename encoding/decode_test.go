package encoding

import (
	"math/rand"
	"strings"
	"testing"

	"domino/api"
)

// P8.1.
func TestSyntax(t *testing.T) {
	for what, s := range map[string]string{
		"nothing":                                "",
		"the kind 3":                             "\x03\x00",
		"the kind 255":                           "\xff\x00",
		"no length":                              "\x00",
		"no length of a text":                    "\x01",
		"no length of a list":                    "\x02",
		"an unfinished length":                   "\x01\x80",
		"an unfinished length before a text":     "\x01\xff\xff",
		"a length that is too great":             "\x01\x02a",
		"a great length":                         "\x01\xff\xff\x03a",
		"a superfluous byte":                     "\x01\x80\x00",
		"a superfluous byte of 1":                "\x00\x81\x00\x05",
		"two superfluous bytes":                  "\x00\x81\x80\x00\x05",
		"a superfluous fifth byte":               "\x00\x81\x80\x80\x80\x00\x05",
		"a sixth byte":                           "\x00\x81\x80\x80\x80\x80\x00\x05",
		"a sixth byte of 1":                      "\x00\x81\x80\x80\x80\x80\x01\x05",
		"a length of 2^32":                       "\x01\x80\x80\x80\x80\x10",
		"a length of 2^32 + 1":                   "\x01\x81\x80\x80\x80\x10a",
		"a length of 2^35 - 1":                   "\x01\xff\xff\xff\xff\x7fa",
		"many bytes of a length":                 "\x01" + strings.Repeat("\xff", 1000),
		"a number that begins with 0":            "\x00\x01\x00",
		"a number that begins with 0 and 5":      "\x00\x02\x00\x05",
		"a number of 129 bytes":                  "\x00\x81\x01" + strings.Repeat("\x01", 129),
		"a list with a bad kind":                 "\x02\x02\x03\x00",
		"a list with a kind only":                "\x02\x01\x00\x00",
		"a list with an unfinished length":       "\x02\x02\x01\x81\x01",
		"a list whose element reaches beyond it": "\x02\x02\x00\x01\x05",
		"a list whose list reaches beyond it":    "\x02\x02\x02\x01\x00\x00",
		"a list with a bad number":               "\x02\x03\x00\x01\x00",
		"a list with a bad number at the end":    "\x02\x05\x00\x00\x00\x01\x00",
		"a list that is too long":                "\x02\x03\x00\x00",
	} {
		unreadable(t, what, s, api.ErrSyntax)
		checkRead(t, s)
		if inside := "\x00\x00" + s; s != "" {
			unreadable(t, what+" in a list", "\x02"+groups(len(inside))+inside, api.ErrSyntax)
		}
	}
}

// P8.1: what is behind an item.
func TestBehind(t *testing.T) {
	for s, length := range map[string]int{"\x00\x01\x05\x00": 3, "\x00\x00\x00": 2, "\x01\x01ab": 3, "\x02\x00\xff": 2, "\x02\x02\x00\x00\x02": 4} {
		if i, err := Decode(s); !same(i, api.Item{}) || err != api.ErrSyntax {
			t.Errorf("Decode(%x): got %v and error %d", s, i, err)
		}
		wanted, _ := Decode(s[:length])
		if i, n, err := Read(s); !same(i, wanted) || n != length || err != api.OK {
			t.Errorf("Read(%x): got %v, %d and error %d", s, i, n, err)
		}
		checkRead(t, s)
	}
}

// P8.1: ErrDeep is returned where the list is found, before its length, but behind what comes before it.
func TestDeep(t *testing.T) {
	for levels := 1; levels <= 32; levels++ {
		if checkRead(t, nestedBytes(levels, "")) != api.OK {
			t.Errorf("%d lists are refused", levels)
		}
	}
	for what, inside := range map[string]string{
		"a list":                      "\x02\x00",
		"a list without a length":     "\x02",
		"a list with a bad length":    "\x02\x80\x00",
		"a list that is too long":     "\x02\x09",
		"a list in a list":            "\x02\x02\x02\x00",
		"a list behind a number":      "\x00\x01\x05\x02\x00",
		"a list before a bad number":  "\x02\x00\x00\x01\x00",
		"a list before a bad kind":    "\x02\x00\x03",
		"a list with a bad number":    "\x02\x03\x00\x01\x00",
		"a list without end and kind": "\x01\x00\x02",
	} {
		unreadable(t, what, nestedBytes(32, inside), api.ErrDeep)
		checkRead(t, nestedBytes(32, inside))
		checkRead(t, nestedBytes(31, inside))
	}
	for what, s := range map[string]string{
		"a bad number before a list":   nestedBytes(32, "\x00\x01\x00\x02\x00"),
		"a bad kind before a list":     nestedBytes(32, "\x03\x02\x00"),
		"a bad length before a list":   nestedBytes(32, "\x01\x80\x00\x02\x00"),
		"a list that is not finished":  nestedBytes(33, "")[:60],
		"a list of which much is left": "\x02\x7f" + nestedBytes(32, ""),
	} {
		unreadable(t, what, s, api.ErrSyntax)
		checkRead(t, s)
	}
	// The error is that of the item; what is behind it is not read.
	if err := checkRead(t, nestedBytes(33, "")+"\x03"); err != api.ErrDeep {
		t.Errorf("33 lists before a bad kind: error %d", err)
	}
}

// P8.1.
func TestLong(t *testing.T) {
	for _, s := range []string{strings.Repeat("\x02", 65537), strings.Repeat("\x00", 65537), "\x03" + strings.Repeat("x", 65536), "\x01\xfd\xff\x03" + strings.Repeat("x", 65533), strings.Repeat("x", 1<<20), nestedBytes(40, strings.Repeat("\x00", 70000))} {
		unreadable(t, "a long string", s, api.ErrLong)
	}
	if i, n, err := Read(strings.Repeat("\x00", 65536)); !same(i, Nat("")) || n != 2 || err != api.OK {
		t.Errorf("a number before many bytes: got %v, %d and error %d", i, n, err)
	}
	encoded(t, Text(strings.Repeat("x", 65532)), "\x01\xfc\xff\x03"+strings.Repeat("x", 65532))
}

// P8.1 and P8.3: all strings of at most seven bytes of a few kinds.
func TestShortStrings(t *testing.T) {
	accepted := 0
	var visit func(s string)
	visit = func(s string) {
		if checkRead(t, s) == api.OK {
			accepted++
			i, _ := Decode(s)
			if again, err := Encode(i); again != s || err != api.OK {
				t.Fatalf("%x is decoded as %v, and that is encoded as %x, error %d", s, i, again, err)
			}
		}
		if len(s) < 7 {
			for _, c := range []byte{0, 1, 2, 3, 4, 0x80, 0x81} {
				visit(s + string([]byte{c}))
			}
		}
	}
	visit("")
	if accepted < 100 {
		t.Errorf("only %d strings are encodings", accepted)
	}
}

// P8.1 and P8.3: encodings with changed bytes.
func TestChangedStrings(t *testing.T) {
	r := rand.New(rand.NewSource(2))
	counts := map[api.Errno]int{}
	for range 20000 {
		b := []byte(written(nestedLists(r.Intn(33), randomItem(r, 3))))
		if len(b) > 65536 {
			continue
		}
		for range 1 + r.Intn(3) {
			k := r.Intn(min(len(b), 80))
			switch r.Intn(4) {
			case 0:
				b[k] = byte(r.Intn(4))
			case 1:
				b[k] ^= 1 << r.Intn(8)
			case 2:
				b[k]++
			case 3:
				b = append(b[:k], b[min(k+1, len(b)-1):]...)
			}
		}
		err := checkRead(t, string(b))
		counts[err]++
		if i, _ := Decode(string(b)); err == api.OK {
			encoded(t, i, string(b))
		}
	}
	if counts[api.OK] < 100 || counts[api.ErrSyntax] < 100 {
		t.Errorf("the errors and how often they occurred: %v", counts)
	}
}
