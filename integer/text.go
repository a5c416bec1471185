package integer

import (
	"strings"

	"domino/api"
	"domino/natural"
)

// Text returns the decimal representation of a.
func Text(a api.Int) (string, api.Errno) {
	if !Valid(a) {
		return "", api.ErrForm
	}
	text, _ := natural.Text(a.Abs)
	if a.Neg {
		text = "-" + text
	}
	return text, api.OK
}

// Parse returns the integer whose decimal representation is s.
func Parse(s string) (api.Int, api.Errno) {
	digits, negative := strings.CutPrefix(s, "-")
	magnitude, err := natural.Parse(digits)
	if err != api.OK {
		return api.Int{}, err
	}
	if negative && magnitude == "" {
		return api.Int{}, api.ErrSyntax
	}
	return signed(negative, magnitude), api.OK
}
