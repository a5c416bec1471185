package transcript

import (
	"strings"

	"domino/hash"
)

// frame collects the bytes of a frame.
type frame struct{ strings.Builder }

// part writes a string after its number of bytes, so that no two lists of strings have the same bytes.
func (f *frame) part(s string) {
	f.WriteString(eight(len(s)))
	f.WriteString(s)
}

// hashed returns the hash of a kind and strings.
func hashed(kind byte, parts ...string) string {
	var f frame
	f.WriteByte(kind)
	f.WriteString(eight(len(parts)))
	for _, s := range parts {
		f.part(s)
	}
	return hash.Sum(f.String())
}

// hashedList returns the hash of a kind and a state, a label, and the text of each element of a list.
func hashedList[T any](kind byte, state, label string, l []T, text func(T) string) string {
	parts := []string{state, label}
	for _, x := range l {
		parts = append(parts, text(x))
	}
	return hashed(kind, parts...)
}

// eight returns the 8 bytes of a number that is not negative, the most significant one first.
func eight(n int) string {
	var b [8]byte
	for i := range b {
		b[len(b)-1-i] = byte(uint64(n) >> (8 * i))
	}
	return string(b[:])
}
