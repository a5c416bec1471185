package natural

import (
	"slices"

	"domino/api"
)

const (
	chunk       = 1000000000 // the greatest power of ten that is a digit to the base 2^32
	chunkPlaces = 9          // decimal digits of a number below chunk
	maxPlaces   = 309        // decimal digits of the greatest canonical number
)

// Text returns the decimal digits of a number.
func Text(a api.Nat) (string, api.Errno) {
	if !Valid(a) {
		return "", api.ErrForm
	}
	if a == "" {
		return "0", api.OK
	}
	var text []byte // the last decimal digit first
	for d := load(a); len(d) > 0; d = trim(d) {
		part := divideByDigit(d, chunk)
		for range chunkPlaces {
			text = append(text, '0'+byte(part%10))
			part /= 10
		}
	}
	for text[len(text)-1] == '0' {
		text = text[:len(text)-1]
	}
	slices.Reverse(text)
	return string(text), api.OK
}

// Parse returns the number with this text.
func Parse(s string) (api.Nat, api.Errno) {
	if !decimal(s) {
		return "", api.ErrSyntax
	}
	if len(s) > maxPlaces {
		return "", api.ErrLong
	}
	var d []uint32
	scale, part := uint32(1), uint32(0)
	for i := range len(s) {
		scale, part = 10*scale, 10*part+uint32(s[i]-'0')
		if scale == chunk || i == len(s)-1 {
			d = appendPart(d, scale, part)
			scale, part = 1, 0
		}
	}
	return store(d)
}

// decimal reports whether s consists of decimal digits and does not begin with a superfluous zero.
func decimal(s string) bool {
	for i := range len(s) {
		if s[i] < '0' || s[i] > '9' {
			return false
		}
	}
	return s == "0" || s != "" && s[0] != '0'
}

// appendPart returns d times scale plus part; it may change d.
func appendPart(d []uint32, scale, part uint32) []uint32 {
	carry := uint64(part)
	for i := range len(d) {
		carry += uint64(scale) * uint64(d[i])
		d[i] = uint32(carry)
		carry >>= 32
	}
	return append(d, uint32(carry))
}
