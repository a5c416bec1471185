package encoding

import (
	"math/rand"
	"testing"

	"domino/api"
)

// P8.2.
func TestItems(t *testing.T) {
	for _, a := range append(invalid(), "", "\x05", "\x01\x00", ones(128)) {
		if got := Nat(a); !same(got, item(0, a, "")) {
			t.Errorf("Nat(%x): got %v", a, got)
		}
		if got := Text(string(a)); !same(got, item(1, "", string(a))) {
			t.Errorf("Text(%x): got %v", a, got)
		}
		if got := Int(api.Int{Abs: a}); !same(got, item(2, "", "", item(0, "", ""), item(0, a, ""))) {
			t.Errorf("Int(%x): got %v", a, got)
		}
		if got := Int(api.Int{Neg: true, Abs: a}); !same(got, item(2, "", "", item(0, "\x01", ""), item(0, a, ""))) {
			t.Errorf("Int(-%x): got %v", a, got)
		}
	}
	strange := []api.Item{item(7, "\x00", "a", item(-1, "", "")), item(0, "", ""), item(2, "\x05", "b", item(1, "", "", item(3, "", "")))}
	if got := List(strange...); !same(got, item(2, "", "", strange...)) {
		t.Errorf("List(%v): got %v", strange, got)
	}
	if got := List(); !same(got, item(2, "", "")) {
		t.Errorf("List(): got %v", got)
	}
}

// P8.2.
func TestToInt(t *testing.T) {
	for _, abs := range []api.Nat{"", "\x01", "\x05", "\x01\x00", ones(127), ones(128)} {
		for _, neg := range []bool{false, true} {
			a := api.Int{Neg: neg, Abs: abs}
			wanted, canonical := a, abs != "" || !neg
			if !canonical {
				wanted = api.Int{}
			}
			if got, ok := ToInt(Int(a)); got != wanted || ok != canonical {
				t.Errorf("ToInt of the item of %v: got %v and %v", a, got, ok)
			}
		}
	}
	zero, one, five := Nat(""), Nat("\x01"), Nat("\x05")
	bad := []api.Item{
		zero, one, five, Text(""), Text("ab"), List(), List(zero), List(five), List(one), List(zero, five, zero), List(zero, five, Text("")), List(one, five, five),
		List(Nat("\x02"), five), List(five, one), List(Nat("\x01\x00"), five), List(Nat(ones(128)), five),
		List(Text(""), five), List(Text("\x01"), five), List(zero, Text("")), List(zero, Text("\x05")), List(List(), five), List(zero, List()), List(List(zero, five)),
		List(zero, item(0, "\x05", "a")), List(zero, item(0, "\x05", "", zero)), List(item(0, "", "a"), five), List(item(0, "", "", zero), five),
		List(item(3, "", ""), five), List(zero, item(3, "\x05", "")), List(zero, item(-1, "\x05", "")),
		item(2, "\x05", "", zero, five), item(2, "", "a", zero, five), item(2, "\x00", "", zero, five), item(0, "", "", zero, five), item(1, "", "", zero, five), item(3, "", "", zero, five),
	}
	for _, n := range invalid() {
		bad = append(bad, Int(api.Int{Abs: n}), Int(api.Int{Neg: true, Abs: n}), List(Nat(n), five))
	}
	for _, i := range bad {
		if got, ok := ToInt(i); got != (api.Int{}) || ok {
			t.Errorf("ToInt(%v): got %v and %v", i, got, ok)
		}
	}
}

// A list shares no memory with the items that it was made of, however deep they are.
func TestListMemory(t *testing.T) {
	make5 := func() []api.Item {
		return []api.Item{Nat("\x05"), item(2, "", "", Text("a"), item(2, "", "", Nat("\x06"))), Text("b")}
	}
	arguments := make5()
	list := List(arguments...)
	arguments[0] = Text("changed")
	arguments[1].List[0] = Text("changed")
	arguments[1].List[1].List[0] = Text("changed")
	if !same(list, item(2, "", "", make5()...)) {
		t.Errorf("the list was changed: %v", list)
	}

	arguments = make5()
	list = List(arguments...)
	list.List[0] = Text("changed")
	list.List[1].List[0] = Text("changed")
	list.List[1].List[1].List[0] = Text("changed")
	if !same(item(2, "", "", arguments...), item(2, "", "", make5()...)) {
		t.Errorf("the arguments were changed: %v", arguments)
	}

	// The same list twice, and spare capacity, also that of an empty list.
	twice := make([]api.Item, 1, 5)
	twice[0] = Nat("\x05")
	list = List(item(2, "", "", twice...), item(2, "", "", twice...), api.Item{Kind: 2, List: twice}, api.Item{Kind: 2, List: twice[:0]})
	list.List[0].List[0] = Text("changed")
	list.List[2].List = append(list.List[2].List, Text("changed"))
	list.List[3].List = append(list.List[3].List, Text("changed"))
	if !same(list.List[1], item(2, "", "", Nat("\x05"))) || !same(item(2, "", "", twice[:5]...), item(2, "", "", Nat("\x05"), api.Item{}, api.Item{}, api.Item{}, api.Item{})) {
		t.Errorf("memory is shared: %v and %v", list, twice[:5])
	}
}

// Encode does not change an item, and two decoded items share no memory.
func TestMemory(t *testing.T) {
	r := rand.New(rand.NewSource(3))
	for range 200 {
		i := randomItem(r, 4)
		before := item(2, "", "", copied([]api.Item{i})...)
		s, err := Encode(i)
		if !same(before, item(2, "", "", i)) {
			t.Fatalf("Encode changed %v", before)
		}
		a, _ := Decode(s)
		b, _ := Decode(s)
		if clear(a.List); err == api.OK && !same(b, i) {
			t.Fatalf("the second item was changed: %v", b)
		}
	}
}

// P8.3: encodings of different items are different, and none is the beginning of another one.
func TestDifferentItems(t *testing.T) {
	items := []api.Item{
		Nat(""), Nat("\x01"), Nat("\x01\x00"), Text(""), Text("\x01"), Text("\x00"), Text("\x00\x00"), List(), List(Nat("")), List(Nat(""), Nat("")), List(Text("")), List(List()), List(List(), List()), List(List(List())),
		Int(api.Int{Abs: "\x01"}), Int(api.Int{Neg: true, Abs: "\x01"}), List(Text("\x00\x00")), List(Nat("\x02"), Nat("")), Text("\x02\x00"),
	}
	for k, i := range items {
		s, err := Encode(i)
		if err != api.OK {
			t.Fatalf("%v: error %d", i, err)
		}
		for l, j := range items {
			other, _ := Encode(j)
			if k != l && len(s) <= len(other) && other[:len(s)] == s {
				t.Errorf("the encoding of %v begins with that of %v", j, i)
			}
		}
	}
}
