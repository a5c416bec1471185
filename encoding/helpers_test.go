package encoding

import (
	"math/rand"
	"slices"
	"strings"
	"testing"

	"domino/api"
)

// ones returns n bytes 255.
func ones(n int) api.Nat {
	return api.Nat(strings.Repeat("\xff", n))
}

// invalid returns strings that are not canonical numbers.
func invalid() []api.Nat {
	return []api.Nat{"\x00", "\x00\x05", "\x00" + ones(128), "\x01" + ones(128), ones(129), ones(1000)}
}

// item returns an item with these parts.
func item(kind int, nat api.Nat, text string, list ...api.Item) api.Item {
	return api.Item{Kind: kind, Nat: nat, Text: text, List: list}
}

// same reports whether two items are equal, where a list may be nil or empty.
func same(a, b api.Item) bool {
	return a.Kind == b.Kind && a.Nat == b.Nat && a.Text == b.Text && slices.EqualFunc(a.List, b.List, same)
}

// nestedLists returns an item inside the given number of lists.
func nestedLists(levels int, inside api.Item) api.Item {
	for range levels {
		inside = api.Item{Kind: api.ItemList, List: []api.Item{inside}}
	}
	return inside
}

// nestedBytes returns bytes inside the given number of lists.
func nestedBytes(levels int, inside string) string {
	for range levels {
		inside = "\x02" + groups(len(inside)) + inside
	}
	return inside
}

// randomItem returns a valid item whose depth is at most the given one.
func randomItem(r *rand.Rand, depth int) api.Item {
	switch kind := r.Intn(5); {
	case kind == 0:
		b := make([]byte, r.Intn(5)*r.Intn(33))
		r.Read(b)
		return item(api.ItemNat, api.Nat(strings.TrimLeft(string(b), "\x00")), "")
	case kind == 1 || depth == 0:
		b := make([]byte, r.Intn(9)*r.Intn(9)*r.Intn(9))
		r.Read(b)
		return item(api.ItemText, "", string(b))
	}
	list := item(api.ItemList, "", "")
	for range r.Intn(6) {
		list.List = append(list.List, randomItem(r, depth-1))
	}
	return list
}

// groups returns the bytes of a length by the definition.
func groups(n int) string {
	if n < 128 {
		return string([]byte{byte(n)})
	}
	return string([]byte{byte(n%128 + 128)}) + groups(n/128)
}

// written returns the encoding of a valid item by the definition.
func written(i api.Item) string {
	content := ""
	switch i.Kind {
	case 0:
		content = string(i.Nat)
	case 1:
		content = i.Text
	case 2:
		for _, e := range i.List {
			content += written(e)
		}
	}
	return string([]byte{byte(i.Kind)}) + groups(len(content)) + content
}

// understood returns the item with whose encoding s begins, the bytes behind it, and the error, by the definition.
func understood(s string, lists int) (api.Item, string, api.Errno) {
	if s == "" || s[0] > 2 {
		return api.Item{}, "", api.ErrSyntax
	}
	kind := int(s[0])
	if kind == 2 && lists == 32 {
		return api.Item{}, "", api.ErrDeep
	}
	s = s[1:]
	end, n, weight := -1, 0, 1
	for k := 0; k < len(s) && k < 5; k++ {
		n += int(s[k]&127) * weight
		weight *= 128
		if s[k] < 128 {
			end = k + 1
			break
		}
	}
	if end < 0 || end > 1 && s[end-1] == 0 || n > len(s)-end {
		return api.Item{}, "", api.ErrSyntax
	}
	content, rest := s[end:end+n], s[end+n:]
	switch {
	case kind == 1:
		return item(1, "", content), rest, api.OK
	case kind == 0 && (len(content) > 128 || strings.HasPrefix(content, "\x00")):
		return api.Item{}, "", api.ErrSyntax
	case kind == 0:
		return item(0, api.Nat(content), ""), rest, api.OK
	}
	list := item(2, "", "")
	for content != "" {
		e, more, err := understood(content, lists+1)
		if err != api.OK {
			return api.Item{}, "", err
		}
		list.List = append(list.List, e)
		content = more
	}
	return list, rest, api.OK
}

// checkRead compares Read and Decode with the definition, for a string that is not too long, and returns the error of Decode.
func checkRead(t *testing.T, s string) api.Errno {
	t.Helper()
	wanted, rest, err := understood(s, 0)
	length := len(s) - len(rest)
	if err != api.OK {
		length = 0
	}
	if got, n, e := Read(s); !same(got, wanted) || n != length || e != err {
		t.Fatalf("Read(%.60x): got %v, %d and error %d, want %v, %d and error %d", s, got, n, e, wanted, length, err)
	}
	if err == api.OK && rest != "" {
		wanted, err = api.Item{}, api.ErrSyntax
	}
	if got, e := Decode(s); !same(got, wanted) || e != err {
		t.Fatalf("Decode(%.60x): got %v and error %d, want %v and error %d", s, got, e, wanted, err)
	}
	return err
}

// refused checks that Encode returns an error.
func refused(t *testing.T, what string, i api.Item, wanted api.Errno) {
	t.Helper()
	if s, err := Encode(i); s != "" || err != wanted {
		t.Errorf("Encode of %s: got %.60x and error %d, want error %d", what, s, err, wanted)
	}
}

// unreadable checks that Read and Decode return an error.
func unreadable(t *testing.T, what, s string, wanted api.Errno) {
	t.Helper()
	if i, n, err := Read(s); !same(i, api.Item{}) || n != 0 || err != wanted {
		t.Errorf("Read of %s: got %v, %d and error %d, want error %d", what, i, n, err, wanted)
	}
	if i, err := Decode(s); !same(i, api.Item{}) || err != wanted {
		t.Errorf("Decode of %s: got %v and error %d, want error %d", what, i, err, wanted)
	}
}

// encoded checks that an item has an encoding, and that it is read back.
func encoded(t *testing.T, i api.Item, wanted string) {
	t.Helper()
	if s, err := Encode(i); s != wanted || err != api.OK {
		t.Fatalf("Encode(%v): got %.60x and error %d, want %.60x", i, s, err, wanted)
	}
	if got, err := Decode(wanted); !same(got, i) || err != api.OK {
		t.Fatalf("Decode(%.60x): got %v and error %d, want %v", wanted, got, err, i)
	}
	if got, n, err := Read(wanted); !same(got, i) || n != len(wanted) || err != api.OK {
		t.Fatalf("Read(%.60x): got %v, %d and error %d, want %v", wanted, got, n, err, i)
	}
}
