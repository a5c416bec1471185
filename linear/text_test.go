package linear

import (
	"crypto/sha256"
	"encoding/binary"
	"encoding/hex"
	"fmt"
	"math"
	"math/rand"
	"strings"
	"testing"

	"domino/api"
	"domino/integer"
)

// frame returns the hash of the frame of a kind and strings, as layer 12 defines it.
func frame(kind string, parts ...string) string {
	b := binary.BigEndian.AppendUint64([]byte(kind), uint64(len(parts)))
	for _, p := range parts {
		b = append(binary.BigEndian.AppendUint64(b, uint64(len(p))), p...)
	}
	h := sha256.Sum256(b)
	return string(h[:])
}

// referenceBind returns the state of a transcript behind a statement, by the definition.
func referenceBind(state string, s api.Statement) string {
	groups := []string{state, "groups"}
	for _, g := range s.Groups {
		groups = append(groups, string(g.Modulus), string(g.Order))
	}
	bounds := []string{frame("L", groups...), "bounds"}
	for _, v := range s.Vars {
		bounds = append(bounds, string(v.Bound))
	}
	state = frame("L", bounds...)
	for _, e := range s.Equations {
		state = frame("A", state, "equation", fmt.Sprint(e.Group))
		state = frame("L", state, "target", string(e.Target))
		for _, t := range e.Terms {
			state = frame("A", state, "variable", fmt.Sprint(t.Var))
			state = frame("L", state, "base", string(t.Base))
			sign := "+"
			if t.Coef.Neg {
				sign = "-"
			}
			state = frame("I", state, "coefficient", sign+string(t.Coef.Abs))
		}
	}
	return state
}

// P15.2: statements of all kinds, also ones that are not valid.
func TestBind(t *testing.T) {
	r := rand.New(rand.NewSource(5))
	list := []api.Statement{{}, mixed(), logarithm(0), {Vars: variables(1)}, {Equations: []api.Equation{equation(math.MinInt, 3, term(0, math.MaxInt, 0))}}}
	for _, x := range changes() {
		list = append(list, edited(mixed(), x.edit))
	}
	for _, groups := range append(smallGroups(), longGroups()...) {
		s, _ := sample(r, groups, 300)
		list = append(list, s)
	}
	for i, s := range list {
		before := written(s)
		for _, state := range []string{"", "a state", strings.Repeat("x", 1000)} {
			if got := Bind(state, s); got != referenceBind(state, s) {
				t.Errorf("Bind of statement %d: got %x", i, got)
			}
		}
		if written(s) != before {
			t.Errorf("Bind changed a statement to %s", short(s))
		}
	}
}

// P15.2: states that were calculated with another program.
func TestKnownStates(t *testing.T) {
	wrong := api.Statement{
		Groups: []api.Group{group(0, 5)},
		Vars:   []api.Variable{{Bound: "\x01" + api.Nat(strings.Repeat("\x00", 128))}},
		Equations: []api.Equation{
			{Group: -12, Terms: []api.Term{{Base: nat(1000), Var: -7, Coef: integer.Neg(fromSigned(long(2, 70, 0)))}, term(0, 1234567, 0)}},
			equation(9, 3),
		},
	}
	for _, x := range []struct {
		state  string
		s      api.Statement
		wanted string
	}{
		{"", api.Statement{}, "7b1bb6f14a106dae6ec1562feec8a7161ad4aa4e8ac526d288dab83950576b3a"},
		{"a state", logarithm(0), "f6d07e7a358615c4bc7500bee14f8e2c54560b4efc81788e70c4136d3eb66925"},
		{"a state", mixed(), "57ba53ee87419268f4c4d600408b5d153d6a34f001b702acd234808c53010c97"},
		{"a state", wrong, "b3be9e9283e7dbd8fe16f6590e895ac8c7bb71555696490ac857deb6d44cf9d6"},
	} {
		if got := hex.EncodeToString([]byte(Bind(x.state, x.s))); got != x.wanted {
			t.Errorf("Bind of %s: got %s", short(x.s), got)
		}
	}
}

// P15.2: every part of a statement changes the state.
func TestBindOfOtherStatements(t *testing.T) {
	seen := map[string]string{}
	for _, s := range []api.Statement{
		mixed(), logarithm(0), logarithm(4), {}, {Groups: []api.Group{{}}}, {Vars: variables(0)}, {Equations: []api.Equation{{}}}, {Equations: []api.Equation{{Terms: []api.Term{{}}}}},
		edited(mixed(), func(s *api.Statement) { s.Groups[1], s.Groups[2] = s.Groups[2], s.Groups[1] }),
		edited(mixed(), func(s *api.Statement) { s.Vars[1].Bound = nat(6) }),
		edited(mixed(), func(s *api.Statement) { s.Equations[0].Group = 2 }),
		edited(mixed(), func(s *api.Statement) { s.Equations[0].Target = nat(9) }),
		edited(mixed(), func(s *api.Statement) { s.Equations[0].Terms[1].Base = nat(4) }),
		edited(mixed(), func(s *api.Statement) { s.Equations[0].Terms[1].Var = 2 }),
		edited(mixed(), func(s *api.Statement) { s.Equations[0].Terms[1].Coef = integer.Of(1) }),
		edited(mixed(), func(s *api.Statement) { s.Equations[0].Terms = s.Equations[0].Terms[:2] }),
		edited(mixed(), func(s *api.Statement) { s.Equations = s.Equations[:3] }),
	} {
		state := Bind("a state", s)
		if len(state) != 32 || seen[state] != "" {
			t.Errorf("the state %x belongs to %s and to %s", state, seen[state], written(s))
		}
		seen[state] = written(s) + "."
	}
}

// referenceText returns the description of a statement, or an error, by the definition.
func referenceText(s api.Statement) (string, api.Errno) {
	if err := referenceCheck(s); err != api.OK {
		return "", err
	}
	text := ""
	for _, g := range s.Groups {
		text += fmt.Sprintf("group %v %v\n", toBig(g.Modulus), toBig(g.Order))
	}
	for _, v := range s.Vars {
		text += fmt.Sprintf("variable %v\n", toBig(v.Bound))
	}
	for _, e := range s.Equations {
		text += fmt.Sprintf("equation %d %v =", e.Group, toBig(e.Target))
		for _, x := range e.Terms {
			text += fmt.Sprintf(" %v^%v*w%d", toBig(x.Base), toSigned(x.Coef), x.Var)
		}
		if len(e.Terms) == 0 {
			text += " 1"
		}
		text += "\n"
	}
	if len(text) > 65536 {
		return "", api.ErrLong
	}
	return text, api.OK
}

// P15.2: the example of the document, and a statement with all kinds of lines.
func TestTextExamples(t *testing.T) {
	if got, err := Text(logarithm(0)); got != "group 23 11\nvariable 0\nequation 0 18 = 4^1*w0\n" || err != api.OK {
		t.Errorf("got %q and error %d", got, err)
	}
	wanted := "group 77 0\ngroup 23 11\ngroup 67 11\nvariable 0\nvariable 5\nvariable 9\nequation 1 4 = 4^1*w0 9^-1*w1 3^2*w2\nequation 0 39 = 4^0*w1 2^1*w2\nequation 2 9 = 9^-5*w2 22^-1*w0\nequation 0 1 = 1\n"
	if got, err := Text(mixed()); got != wanted || err != api.OK {
		t.Errorf("got %q and error %d", got, err)
	}
	if got, err := Text(api.Statement{}); got != "" || err != api.OK {
		t.Errorf("nothing: got %q and error %d", got, err)
	}
}

// P15.2: statements of all kinds and sizes.
func TestTextOfRandomStatements(t *testing.T) {
	r := rand.New(rand.NewSource(6))
	for i, groups := range append(smallGroups(), longGroups()...) {
		for range []int{20, 3}[i/len(smallGroups())] {
			s, _ := sample(r, groups, 1000)
			before := written(s)
			got, err := Text(s)
			if wanted, e := referenceText(s); got != wanted || err != e || written(s) != before {
				t.Fatalf("got %q and error %d, want %q and error %d", got, err, wanted, e)
			}
		}
	}
	for _, x := range changes() {
		if got, err := Text(edited(mixed(), x.edit)); got != "" || err != x.err {
			t.Errorf("%s: got %q and error %d", x.what, got, err)
		}
	}
}

// described returns a valid statement whose description has so many bytes, which are at least 1000.
func described(length int) api.Statement {
	s := logarithm(4)
	left := length - len("group 23 11\nvariable 4\nequation 0 18 = 4^1*w0\n")
	add := func(digits int) {
		last := len(s.Equations) - 1
		if len(s.Equations[last].Terms) == 64 {
			last++
			s.Equations = append(s.Equations, equation(0, 1))
			left -= len("equation 0 1 =\n")
		}
		s.Equations[last].Terms = append(s.Equations[last].Terms, api.Term{Base: nat(4), Coef: fromSigned(long(10, int64(digits-1), 0))})
		left -= digits + len(" 4^*w0")
	}
	for left > 700 {
		add(300)
	}
	for left > 315 {
		add(100)
	}
	add(left - len(" 4^*w0"))
	return s
}

// P15.2: descriptions with as many bytes as they can have, and with one more.
func TestTextOfManyBytes(t *testing.T) {
	for _, length := range []int{1000, 65000, 65535, 65536, 65537, 65538, 70000, 1000000} {
		s := described(length)
		wanted, e := referenceText(s)
		if got, err := Text(s); got != wanted || err != e || (err == api.OK) != (length <= 65536) || err == api.OK && len(got) != length {
			t.Errorf("%d bytes: got %d bytes and error %d, want error %d", length, len(got), err, e)
		}
	}
}
