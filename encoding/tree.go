package encoding

import "domino/api"

// Items may be nested so deeply that a function that calls itself for every level would use up the stack. Lists that are still to be visited are therefore kept in a slice.

// nested is a list inside depth lists, itself included.
type nested struct {
	list  []api.Item
	depth int
}

// measure returns the depth of an item, and whether it is valid.
func measure(i api.Item) (int, bool) {
	depth := 0
	for left := []nested{{list: []api.Item{i}}}; len(left) > 0; {
		next := left[len(left)-1]
		left = left[:len(left)-1]
		depth = max(depth, next.depth)
		for _, i := range next.list {
			if !formed(i) {
				return 0, false
			}
			if i.Kind == api.ItemList {
				left = append(left, nested{i.List, next.depth + 1})
			}
		}
	}
	return depth, true
}

// copied returns a copy of a list and of all lists in it.
func copied(l []api.Item) []api.Item {
	all := flatCopy(l)
	for left := [][]api.Item{all}; len(left) > 0; {
		next := left[len(left)-1]
		left = left[:len(left)-1]
		for k := range next {
			next[k].List = flatCopy(next[k].List)
			if next[k].List != nil {
				left = append(left, next[k].List)
			}
		}
	}
	return all
}

// flatCopy returns a copy of a list whose elements contain the same lists as before; nil for an empty one, which may have spare capacity.
func flatCopy(l []api.Item) []api.Item {
	return append([]api.Item(nil), l...)
}
