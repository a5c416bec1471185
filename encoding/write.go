package encoding

import "domino/api"

// Encode returns the encoding of an item.
func Encode(i api.Item) (string, api.Errno) {
	depth, ok := measure(i)
	switch {
	case !ok:
		return "", api.ErrForm
	case depth > api.MaxDepth:
		return "", api.ErrDeep
	}
	n := size(i)
	if n > api.MaxText {
		return "", api.ErrLong
	}
	return string(appendItem(make([]byte, 0, n), i)), api.OK
}

// size returns the number of bytes of the encoding of a valid item.
func size(i api.Item) int {
	n := contentSize(i)
	return 1 + len(appendLength(nil, n)) + n
}

// contentSize returns the number of bytes of the content of a valid item.
func contentSize(i api.Item) int {
	n := len(i.Nat) + len(i.Text) // one of them is empty
	for _, element := range i.List {
		n += size(element)
	}
	return n
}

// appendItem appends the encoding of a valid item.
func appendItem(b []byte, i api.Item) []byte {
	b = append(b, byte(i.Kind))
	b = appendLength(b, contentSize(i))
	b = append(b, i.Nat...)
	b = append(b, i.Text...)
	for _, element := range i.List {
		b = appendItem(b, element)
	}
	return b
}

// appendLength appends the bytes of a length.
func appendLength(b []byte, n int) []byte {
	var groups [9]byte // of seven bits each: enough for every int
	count := 0
	for ; n >= more; n >>= 7 {
		groups[count] = byte(n%more) | more
		count++
	}
	groups[count] = byte(n)
	return append(b, groups[:count+1]...)
}
