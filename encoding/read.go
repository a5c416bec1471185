package encoding

import (
	"domino/api"
	"domino/natural"
)

// more is the bit of a byte of a length that says that another byte follows.
const more = 128

// mostGroups is the greatest number of bytes of a length.
const mostGroups = 5

// Decode returns the item with the encoding s.
func Decode(s string) (api.Item, api.Errno) {
	i, n, err := Read(s)
	switch {
	case err != api.OK:
		return api.Item{}, err
	case n < len(s):
		return api.Item{}, api.ErrSyntax
	}
	return i, api.OK
}

// Read returns the item with whose encoding s begins, and the number of bytes of this encoding.
func Read(s string) (i api.Item, n int, err api.Errno) {
	if len(s) > api.MaxText {
		return api.Item{}, 0, api.ErrLong
	}
	defer func() {
		if failure := recover(); failure != nil {
			err = failure.(api.Errno)
		}
	}()
	r := reader{rest: s}
	i = r.item()
	return i, len(s) - len(r.rest), api.OK
}

// reader reads items from the rest of a text that is inside depth lists. Its methods panic with an error number.
type reader struct {
	rest  string
	depth int
}

// item reads an item.
func (r *reader) item() api.Item {
	kind := int(r.next())
	switch {
	case kind > api.ItemList:
		panic(api.ErrSyntax)
	case kind == api.ItemList && r.depth == api.MaxDepth:
		panic(api.ErrDeep)
	}
	n := r.length()
	content := r.rest[:n]
	r.rest = r.rest[n:]
	switch kind {
	case api.ItemNat:
		if !natural.Valid(api.Nat(content)) {
			panic(api.ErrSyntax)
		}
		return Nat(api.Nat(content))
	case api.ItemText:
		return Text(content)
	}
	list := api.Item{Kind: api.ItemList}
	for inside := (reader{content, r.depth + 1}); inside.rest != ""; {
		list.List = append(list.List, inside.item())
	}
	return list
}

// length reads a length, which is at most that of the rest behind it.
func (r *reader) length() int {
	n := uint64(0) // five groups of seven bits may be too many for an int
	for k := range mostGroups {
		b := r.next()
		n |= uint64(b%more) << (7 * k)
		if b >= more {
			continue
		}
		if b == 0 && k > 0 || n > uint64(len(r.rest)) {
			panic(api.ErrSyntax)
		}
		return int(n)
	}
	panic(api.ErrSyntax)
}

// next reads a byte.
func (r *reader) next() byte {
	if r.rest == "" {
		panic(api.ErrSyntax)
	}
	b := r.rest[0]
	r.rest = r.rest[1:]
	return b
}
