package tree

import (
	"slices"

	"tableau/api"
	"tableau/reserved"
)

// isName tells whether it is a name, one of the words or not.
func isName(s string) bool {
	if s == "" || len(s) > api.MaxName || !isSmall(s[0]) {
		return false
	}
	for i := range len(s) {
		if !isSmall(s[i]) && !isGreat(s[i]) && !isDigit(s[i]) && s[i] != '_' {
			return false
		}
	}
	return true
}

func isSmall(b byte) bool {
	return 'a' <= b && b <= 'z'
}

func isGreat(b byte) bool {
	return 'A' <= b && b <= 'Z'
}

func isDigit(b byte) bool {
	return '0' <= b && b <= '9'
}

func isText(s string) bool {
	if len(s) > api.MaxText {
		return false
	}
	for i := range len(s) {
		if s[i] < 32 || s[i] > 126 {
			return false
		}
	}
	return true
}

// freeOr makes what tells of a text whether it is a free name, or one of these words.
func freeOr(also ...string) func(s string) bool {
	return func(s string) bool {
		return isName(s) && (!reserved.Word(s) || slices.Contains(also, s))
	}
}
