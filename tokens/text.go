package tokens

import (
	"strconv"
	"strings"

	"tableau/api"
)

// Text is how the token is written; nothing, if it may not be.
func Text(t api.Token) string {
	if t.At < 0 || t.Num < 0 {
		return ""
	}
	if t.Kind == api.TkNum && t.Text == "" {
		return strconv.FormatInt(t.Num, 10)
	}
	if t.Num != 0 {
		return ""
	}
	switch {
	case t.Kind == api.TkName && isName(t.Text), t.Kind == api.TkMark && isMark(t.Text):
		return strings.Clone(t.Text)
	case t.Kind == api.TkText && isText(t.Text):
		return quoted(t.Text)
	}
	return ""
}

func isName(s string) bool {
	if s == "" || len(s) > api.MaxName || classOf(s[0]) != small {
		return false
	}
	return behind([]byte(s), 0, inName()) == len(s)
}

func isText(s string) bool {
	return len(s) <= api.MaxText && behind([]byte(s), 0, isPlain) == len(s)
}

func isMark(s string) bool {
	switch s {
	case "{", "}", "(", ")", ";", ",", ".", "=", "==", "!", "!=", "<", "<=", ">", ">=", "+", "-", "*", "/", "%", "&&", "||":
		return true
	}
	return false
}

func quoted(s string) string {
	b := []byte{'"'}
	for i := range len(s) {
		if isEscaped(s[i]) {
			b = append(b, backslash)
		}
		b = append(b, s[i])
	}
	return string(append(b, '"'))
}
