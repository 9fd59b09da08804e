// Package value has a number, or a text.
package value

import (
	"cmp"
	"strconv"
	"strings"

	"tuplestead/api"
)

// maxDigits is as many as api.MaxNumber has, so what is longer can be no number at all.
const maxDigits = 7

// Check tells what is wrong with a value.
func Check(v api.Value) error {
	switch v.Kind {
	case api.Number:
		return checkNumber(v)
	case api.Text:
		return checkText(v)
	case api.Any:
		return checkAny(v)
	}
	return api.ErrRange
}

func checkNumber(v api.Value) error {
	if v.N < -api.MaxNumber || v.N > api.MaxNumber {
		return api.ErrRange
	}
	if v.S != "" {
		return api.ErrShape
	}
	return nil
}

func checkText(v api.Value) error {
	if len(v.S) > api.MaxText {
		return api.ErrFull
	}
	if v.N != 0 || anyByte(v.S, func(c byte) bool { return c < 'a' || c > 'z' }) {
		return api.ErrShape
	}
	return nil
}

func checkAny(v api.Value) error {
	if v.N != 0 || v.S != "" {
		return api.ErrShape
	}
	return nil
}

// checkBoth tells what is wrong with the first of two that has a fault.
func checkBoth(a, b api.Value) error {
	if err := Check(a); err != nil {
		return err
	}
	return Check(b)
}

// anyByte tells whether any byte of a text is so. It goes by bytes, not runes: a text need not be UTF-8.
func anyByte(s string, so func(c byte) bool) bool {
	for i := range len(s) {
		if so(s[i]) {
			return true
		}
	}
	return false
}

// Order of two: -1, 0 or 1.
func Order(a, b api.Value) (int, error) {
	if err := checkBoth(a, b); err != nil {
		return 0, err
	}
	// The numbers of the kinds rise in the order that is asked for; and of two
	// that were checked, what their kind does not use is the same in both.
	if c := cmp.Compare(a.Kind, b.Kind); c != 0 {
		return c, nil
	}
	if c := cmp.Compare(a.N, b.N); c != 0 {
		return c, nil
	}
	return cmp.Compare(a.S, b.S), nil
}

// Fits tells whether v is what like asks for.
func Fits(like, v api.Value) (bool, error) {
	if err := checkBoth(like, v); err != nil {
		return false, err
	}
	if v.Kind == api.Any {
		return false, api.ErrShape
	}
	return like.Kind == api.Any || like == v, nil
}

// Print a value.
func Print(v api.Value) (string, error) {
	if err := Check(v); err != nil {
		return "", err
	}
	switch v.Kind {
	case api.Number:
		return strconv.Itoa(v.N), nil
	case api.Text:
		return ":" + v.S, nil
	}
	return "*", nil
}

// Parse a value: what Print gives, and nothing else.
func Parse(text string) (api.Value, error) {
	v, err := read(text)
	if err != nil {
		return api.Value{}, err
	}
	if err := Check(v); err != nil {
		return api.Value{}, err
	}
	// An answer shares no memory with what was handed in.
	v.S = strings.Clone(v.S)
	return v, nil
}

// read tells a text's form alone: whether such a value may be, Check says.
func read(text string) (api.Value, error) {
	if text == "*" {
		return api.Value{Kind: api.Any}, nil
	}
	if s, ok := strings.CutPrefix(text, ":"); ok {
		return api.Value{Kind: api.Text, S: s}, nil
	}
	if !isDecimal(text) {
		return api.Value{}, api.ErrSyntax
	}
	n, err := strconv.Atoi(text)
	if err != nil {
		return api.Value{}, api.ErrSyntax
	}
	return api.Value{Kind: api.Number, N: n}, nil
}

// isDecimal is stricter than strconv: no +, no needless 0, no -0.
func isDecimal(text string) bool {
	digits := strings.TrimPrefix(text, "-")
	if digits == "" || len(digits) > maxDigits {
		return false
	}
	if digits[0] == '0' {
		return text == "0"
	}
	return !anyByte(digits, func(c byte) bool { return c < '0' || c > '9' })
}
