package encoding

import (
	"math"
	"math/rand"
	"runtime/debug"
	"strings"
	"testing"

	"domino/api"
)

// P8.1.
func TestExamples(t *testing.T) {
	encoded(t, Nat("\x05"), "\x00\x01\x05")
	encoded(t, Nat(""), "\x00\x00")
	encoded(t, Text("ab"), "\x01\x02ab")
	encoded(t, Text(""), "\x01\x00")
	encoded(t, List(), "\x02\x00")
	encoded(t, List(Nat("\x05"), List()), "\x02\x05\x00\x01\x05\x02\x00")
	encoded(t, Int(api.Int{Neg: true, Abs: "\x01\x00"}), "\x02\x07\x00\x01\x01\x00\x02\x01\x00")
	encoded(t, Text(strings.Repeat("x", 300)), "\x01\xac\x02"+strings.Repeat("x", 300))
	encoded(t, Text("\x00\x80\xff\x02"), "\x01\x04\x00\x80\xff\x02")
	encoded(t, Nat(ones(127)), "\x00\x7f"+string(ones(127)))
	encoded(t, Nat(ones(128)), "\x00\x80\x01"+string(ones(128)))
	encoded(t, List(Text("a"), Text("a"), List(List()), Nat("")), "\x02\x0c\x01\x01a\x01\x01a\x02\x02\x02\x00\x00\x00")
}

// P8.1: lengths beside the limits of their bytes.
func TestLengths(t *testing.T) {
	for _, n := range []int{0, 1, 2, 126, 127, 128, 129, 255, 256, 16382, 16383, 16384, 16385, 32767, 32768, 65531, 65532} {
		s := strings.Repeat("y", n)
		encoded(t, Text(s), "\x01"+groups(n)+s)
		if n <= 65528 {
			encoded(t, List(Text(s)), "\x02"+groups(len(groups(n))+1+n)+"\x01"+groups(n)+s)
		}
	}
	for length, bytes := range map[int]string{127: "\x7f", 128: "\x80\x01", 16383: "\xff\x7f", 16384: "\x80\x80\x01", 65532: "\xfc\xff\x03"} {
		if s, _ := Encode(Text(strings.Repeat("y", length))); !strings.HasPrefix(s, "\x01"+bytes+"y") {
			t.Errorf("the length %d is written as %x", length, s[1:4])
		}
	}
}

// P8.1: items that are not valid.
func TestEncodeForm(t *testing.T) {
	number, text, empty := Nat("\x05"), Text("a"), List()
	bad := map[string]api.Item{
		"the kind 3":                    item(3, "", ""),
		"the kind -1":                   item(-1, "", ""),
		"the kind 256":                  item(256, "", ""),
		"the greatest kind":             item(math.MaxInt, "", ""),
		"the least kind":                item(math.MinInt, "", ""),
		"a number with a text":          item(api.ItemNat, "\x05", "a"),
		"0 with a text":                 item(api.ItemNat, "", "a"),
		"a number with a list":          item(api.ItemNat, "\x05", "", number),
		"a text with a number":          item(api.ItemText, "\x05", "a"),
		"a text with a bad number":      item(api.ItemText, "\x00", ""),
		"a text with a list":            item(api.ItemText, "", "a", empty),
		"a list with a number":          item(api.ItemList, "\x05", "", text),
		"an empty list with a number":   item(api.ItemList, "\x05", ""),
		"a list with a text":            item(api.ItemList, "", "a", text),
		"an empty list with a text":     item(api.ItemList, "", "a"),
		"a number of the kind of lists": item(api.ItemList, "\x05", ""),
	}
	for _, n := range invalid() {
		bad["the number "+string(n)] = Nat(n)
		bad["the integer "+string(n)] = Int(api.Int{Abs: n})
	}
	for what, i := range bad {
		refused(t, what, i, api.ErrForm)
		refused(t, what+" at the end of a list", List(number, text, empty, i), api.ErrForm)
		refused(t, what+" at the beginning of a list", List(i, number, List(text)), api.ErrForm)
		refused(t, what+" between lists", List(List(empty), nestedLists(3, i), List(empty)), api.ErrForm)
		// ErrForm comes before the other errors.
		refused(t, what+" in many lists", nestedLists(40, i), api.ErrForm)
		refused(t, what+" beside many lists", List(nestedLists(40, number), i), api.ErrForm)
		refused(t, what+" beside a long text", List(Text(strings.Repeat("x", 70000)), i), api.ErrForm)
	}
	encoded(t, item(api.ItemNat, "\x05", "", []api.Item{}...), "\x00\x01\x05")
	encoded(t, api.Item{Kind: api.ItemText, Text: "a", List: []api.Item{}}, "\x01\x01a")
	encoded(t, api.Item{}, "\x00\x00")
}

// P8.1.
func TestEncodeDeep(t *testing.T) {
	number := Nat("\x05")
	for levels := range 33 {
		encoded(t, nestedLists(levels, number), nestedBytes(levels, "\x00\x01\x05"))
	}
	encoded(t, nestedLists(31, List()), nestedBytes(32, ""))
	encoded(t, List(number, nestedLists(31, Text("a")), number), "\x02\x47\x00\x01\x05"+nestedBytes(31, "\x01\x01a")+"\x00\x01\x05")
	long := Text(strings.Repeat("x", 70000))
	refused(t, "33 lists", nestedLists(33, number), api.ErrDeep)
	refused(t, "33 lists, the last one empty", nestedLists(32, List()), api.ErrDeep)
	refused(t, "a list of 32 lists", List(number, nestedLists(32, number), number), api.ErrDeep)
	refused(t, "33 lists beside an empty list", List(List(), nestedLists(32, number), List()), api.ErrDeep)
	refused(t, "33 lists before a list of lists", List(nestedLists(32, number), nestedLists(5, number)), api.ErrDeep)
	refused(t, "33 lists behind a list of lists", List(nestedLists(5, number), nestedLists(32, number)), api.ErrDeep)
	refused(t, "33 lists beside a long text", List(long, nestedLists(32, number), long), api.ErrDeep)
	refused(t, "33 lists around a long text", nestedLists(33, long), api.ErrDeep)
}

// P1 and P8.1: items that are nested more deeply than a stack allows, which is made smaller here so that fewer levels suffice.
func TestVeryDeep(t *testing.T) {
	const levels = 1000000
	defer debug.SetMaxStack(debug.SetMaxStack(1 << 26))
	deep := nestedLists(levels, Nat("\x05"))
	refused(t, "very many lists", deep, api.ErrDeep)
	refused(t, "a bad number in very many lists", nestedLists(levels, Nat("\x00")), api.ErrForm)
	if _, ok := ToInt(deep); ok {
		t.Errorf("lists are an integer")
	}
	depth := 0
	for i := List(deep); i.Kind == api.ItemList && len(i.List) == 1; i = i.List[0] {
		depth++
	}
	if depth != levels+1 {
		t.Errorf("a list around %d lists has the depth %d", levels, depth)
	}
}

// P8.1.
func TestEncodeLong(t *testing.T) {
	text := func(n int) api.Item { return Text(strings.Repeat("x", n)) }
	for what, i := range map[string]api.Item{
		"a text":                  text(65533),
		"a text of 2^20 bytes":    text(1 << 20),
		"a list of a text":        List(text(65529)),
		"a list of texts":         List(text(30000), text(35529)),
		"many lists of a text":    nestedLists(32, text(65532)),
		"a list of many numbers":  List(make([]api.Item, 100000)...),
		"one number too many":     List(make([]api.Item, 32767)...),
		"a text and many numbers": List(append(make([]api.Item, 30000), text(5530))...),
	} {
		refused(t, what, i, api.ErrLong)
	}
	for what, i := range map[string]api.Item{
		"a text":                  text(65532),
		"a list of a text":        List(text(65528)),
		"a list of texts":         List(text(30000), text(35524)),
		"a list of many numbers":  List(make([]api.Item, 32766)...),
		"a text and many numbers": List(append(make([]api.Item, 30000), text(5529))...),
	} {
		s, err := Encode(i)
		if len(s) != 65536 || err != api.OK {
			t.Errorf("%s: got %d bytes and error %d", what, len(s), err)
		}
		if s != written(i) {
			t.Errorf("%s: the encoding is wrong", what)
		}
		encoded(t, i, s)
	}
}

// P8.1 and P8.3.
func TestRandomItems(t *testing.T) {
	r := rand.New(rand.NewSource(1))
	for range 3000 {
		i := randomItem(r, r.Intn(8))
		s := written(i)
		if len(s) > 65536 {
			refused(t, "a long item", i, api.ErrLong)
			continue
		}
		encoded(t, i, s)
		tail := []string{"\x00", "\x00\x00", "\x80", "\x02\x00", "\xff\xff\xff", s}[r.Intn(6)]
		if got, n, err := Read(s + tail); len(s+tail) <= 65536 && (!same(got, i) || n != len(s) || err != api.OK) {
			t.Fatalf("Read of %x with bytes behind it: got %v, %d and error %d", s, got, n, err)
		}
		unreadable(t, "a proper beginning", s[:r.Intn(len(s))], api.ErrSyntax)
	}
}
