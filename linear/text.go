package linear

import (
	"strconv"
	"strings"

	"domino/api"
	"domino/integer"
	"domino/natural"
	"domino/transcript"
)

// Bind adds a statement to the state of a transcript.
func Bind(state string, s api.Statement) string {
	var groups, bounds []api.Nat
	for _, g := range s.Groups {
		groups = append(groups, g.Modulus, g.Order)
	}
	for _, v := range s.Vars {
		bounds = append(bounds, v.Bound)
	}
	state = transcript.Nats(state, "groups", groups...)
	state = transcript.Nats(state, "bounds", bounds...)
	for _, e := range s.Equations {
		state = transcript.Add(state, "equation", strconv.Itoa(e.Group))
		state = transcript.Nats(state, "target", e.Target)
		for _, t := range e.Terms {
			state = transcript.Add(state, "variable", strconv.Itoa(t.Var))
			state = transcript.Nats(state, "base", t.Base)
			state = transcript.Ints(state, "coefficient", t.Coef)
		}
	}
	return state
}

// Text returns a description of a statement.
func Text(s api.Statement) (string, api.Errno) {
	if err := Check(s); err != api.OK {
		return "", err
	}
	var text strings.Builder
	line := func(parts ...string) { text.WriteString(strings.Join(parts, " ") + "\n") }
	for _, g := range s.Groups {
		line("group", decimal(g.Modulus), decimal(g.Order))
	}
	for _, v := range s.Vars {
		line("variable", decimal(v.Bound))
	}
	for _, e := range s.Equations {
		line("equation", strconv.Itoa(e.Group), decimal(e.Target), "=", product(e.Terms))
	}
	if text.Len() > api.MaxText {
		return "", api.ErrLong
	}
	return text.String(), api.OK
}

// product returns the description of a product of terms.
func product(terms []api.Term) string {
	if len(terms) == 0 {
		return "1"
	}
	var parts []string
	for _, t := range terms {
		coef, _ := integer.Text(t.Coef)
		parts = append(parts, decimal(t.Base)+"^"+coef+"*w"+strconv.Itoa(t.Var))
	}
	return strings.Join(parts, " ")
}

// decimal returns the digits of a canonical number.
func decimal(n api.Nat) string {
	digits, _ := natural.Text(n)
	return digits
}
