package transcript

import (
	"crypto/sha256"
	"encoding/binary"
	"encoding/hex"
	"slices"
	"strings"
	"testing"

	"domino/api"
	"domino/integer"
	"domino/natural"
)

// reference returns the hash of a kind and strings, as the document defines it.
func reference(kind byte, parts ...string) string {
	b := binary.BigEndian.AppendUint64([]byte{kind}, uint64(len(parts)))
	for _, s := range parts {
		b = binary.BigEndian.AppendUint64(b, uint64(len(s)))
		b = append(b, s...)
	}
	sum := sha256.Sum256(b)
	return string(sum[:])
}

// texts returns labels, states and data of several lengths.
func texts() []string {
	return []string{"", "a", "b", "ab", "\x00", "\x00\x00", "N", "-\x05", "label", strings.Repeat("x", 31), reference('N', "s"), strings.Repeat("y", 255), strings.Repeat("z", 256), strings.Repeat("long ", 20000)}
}

// nats returns lists of numbers, some of which are not canonical.
func nats() [][]api.Nat {
	many := slices.Repeat([]api.Nat{"\x07"}, 300)
	return [][]api.Nat{nil, {""}, {"", ""}, {"\x05"}, {"\x05", ""}, {"", "\x05"}, {"\x05\x06"}, {"\x05", "\x06"}, {"\x06", "\x05"}, {"\x00\x05"}, {"\x00"}, {"-\x05"}, {"+"}, {api.Nat(strings.Repeat("\xff", 200)), "\x01"}, many}
}

// ints returns lists of integers, some of which are not valid.
func ints() [][]api.Int {
	var out [][]api.Int
	for _, l := range nats() {
		var positive, negative, mixed []api.Int
		for i, x := range l {
			positive = append(positive, api.Int{Abs: x})
			negative = append(negative, api.Int{Neg: true, Abs: x})
			mixed = append(mixed, api.Int{Neg: i%2 == 1, Abs: x})
		}
		out = append(out, positive)
		if len(l) > 0 {
			out = append(out, negative)
		}
		if len(l) > 1 {
			out = append(out, mixed)
		}
	}
	return out
}

// P12.1.
func TestNewAndAdd(t *testing.T) {
	for _, label := range texts() {
		if got := New(label); got != reference('N', label) {
			t.Errorf("New(%.20q): got %x", label, got)
		}
		for _, state := range texts() {
			for _, data := range texts() {
				if got := Add(state, label, data); got != reference('A', state, label, data) {
					t.Errorf("Add(%.20q, %.20q, %.20q): got %x", state, label, data, got)
				}
			}
		}
	}
}

// P12.1.
func TestNats(t *testing.T) {
	for _, state := range texts() {
		for _, label := range texts() {
			for _, l := range nats() {
				parts := []string{state, label}
				for _, x := range l {
					parts = append(parts, string(x))
				}
				if got := Nats(state, label, l...); got != reference('L', parts...) {
					t.Errorf("Nats(%.20q, %.20q, %.20x): got %x", state, label, l, got)
				}
			}
		}
	}
}

// P12.1.
func TestInts(t *testing.T) {
	for _, state := range texts() {
		for _, label := range texts() {
			for _, l := range ints() {
				parts := []string{state, label}
				for _, x := range l {
					sign := "+"
					if x.Neg {
						sign = "-"
					}
					parts = append(parts, sign+string(x.Abs))
				}
				if got := Ints(state, label, l...); got != reference('I', parts...) {
					t.Errorf("Ints(%.20q, %.20q, %.20v): got %x", state, label, l, got)
				}
			}
		}
	}
}

// P12.1: an empty list is the same as none, and lists are not modified.
func TestListsAreNotModified(t *testing.T) {
	if Nats("s", "l") != Nats("s", "l", []api.Nat{}...) || Ints("s", "l") != Ints("s", "l", []api.Int{}...) {
		t.Error("an empty list is not the same as none")
	}
	numbers := append(make([]api.Nat, 0, 8), "\x01", "", "\x00\x02")
	integers := append(make([]api.Int, 0, 8), integer.Of(1), integer.Of(-2), api.Int{Neg: true})
	Nats("s", "l", numbers...)
	Ints("s", "l", integers...)
	if !slices.Equal(numbers[:8], []api.Nat{"\x01", "", "\x00\x02", "", "", "", "", ""}) {
		t.Errorf("the numbers have changed to %x", numbers[:8])
	}
	if !slices.Equal(integers[:5], []api.Int{integer.Of(1), integer.Of(-2), {Neg: true}, {}, {}}) {
		t.Errorf("the integers have changed to %v", integers[:5])
	}
}

// P12.1: states that were calculated elsewhere.
func TestKnownStates(t *testing.T) {
	s := New("domino")
	for _, c := range []struct {
		next   func(string) string
		wanted string
	}{
		{func(s string) string { return s }, "df5e684851b0e232eabbf421f2b2c6ea84cb7a9a40bef6508016652bf2bd6c48"},
		{func(s string) string { return Add(s, "policy", "policy p uses c: card end") }, "44715b70475b062bb3a6c1a144592aaf66e920f8cf90ae103d7312914b489112"},
		{func(s string) string { return Nats(s, "numbers", natural.Of(258), "", "\x00\x05") }, "c26aa6dc92ca6d36dfc74c2807817bafae04f3004e3363cc723959ab41083054"},
		{func(s string) string {
			return Ints(s, "integers", integer.Of(5), integer.Of(-258), api.Int{}, api.Int{Neg: true})
		}, "d28a3e1ddcde6f69a17d9c6c538c0fd37b52239d55dd09887d4f41b6ec97c72b"},
	} {
		if s = c.next(s); hex.EncodeToString([]byte(s)) != c.wanted {
			t.Errorf("got the state %x, want %s", s, c.wanted)
		}
	}
}

// P12.1: the first example of the document.
func TestNewExample(t *testing.T) {
	sum := sha256.Sum256([]byte{'N', 0, 0, 0, 0, 0, 0, 0, 1, 0, 0, 0, 0, 0, 0, 0, 1, 'a'})
	if got := New("a"); got != string(sum[:]) {
		t.Errorf("New(a): got %x, want %x", got, sum)
	}
}

// P12.2: states of different kinds, labels, data and lists differ, and have 32 bytes.
func TestStatesDiffer(t *testing.T) {
	seen := map[string]string{}
	see := func(state, what string) {
		t.Helper()
		if other, ok := seen[state]; ok {
			t.Errorf("%s has the state of %s", what, other)
		}
		if len(state) != 32 {
			t.Errorf("%s has a state of %d bytes", what, len(state))
		}
		seen[state] = what
	}
	short := texts()[:9]
	for _, label := range short {
		see(New(label), "New of "+label)
		for _, state := range short {
			for _, data := range short {
				see(Add(state, label, data), "Add of "+state+", "+label+" and "+data)
			}
			for _, l := range nats() {
				see(Nats(state, label, l...), "a list of numbers")
			}
			for _, l := range ints() {
				see(Ints(state, label, l...), "a list of integers")
			}
		}
	}
}
