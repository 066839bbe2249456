package tokens

import (
	"strconv"

	"tableau/api"
)

// What takes a token answers it, without its place, and the place behind it; or the place of the fault, and false.

func name(src []byte, at int) (api.Token, int, bool) {
	end := behind(src, at, inName())
	if end-at > api.MaxName {
		return api.Token{}, at, false
	}
	return api.Token{Kind: api.TkName, Text: string(src[at:end])}, end, true
}

func number(src []byte, at int) (api.Token, int, bool) {
	end := at + 1
	if src[at] != '0' {
		end = behind(src, end, of(digit))
	}
	// All of it are digits: so the one error that may be is that the number is too great.
	n, err := strconv.ParseInt(string(src[at:end]), 10, 64)
	if err != nil {
		return api.Token{}, at, false
	}
	if behind(src, end, inName()) > end {
		return api.Token{}, end, false
	}
	return api.Token{Kind: api.TkNum, Num: n}, end, true
}

func text(src []byte, at int) (api.Token, int, bool) {
	var says []byte
	for i := at + 1; i < len(src) && src[i] != newline; i++ {
		switch {
		case src[i] == '"':
			if len(says) > api.MaxText {
				return api.Token{}, at, false
			}
			return api.Token{Kind: api.TkText, Text: string(says)}, i + 1, true
		case src[i] == backslash:
			if i+1 == len(src) || !isEscaped(src[i+1]) {
				return api.Token{}, i, false
			}
			i++
		case !isPlain(src[i]):
			return api.Token{}, i, false
		}
		says = append(says, src[i])
	}
	return api.Token{}, at, false
}

// mark takes the longest one: none has more than two bytes.
func mark(src []byte, at int) (api.Token, int, bool) {
	for end := min(at+2, len(src)); end > at; end-- {
		if isMark(string(src[at:end])) {
			return api.Token{Kind: api.TkMark, Text: string(src[at:end])}, end, true
		}
	}
	return api.Token{}, at, false
}

// remark is the place behind the remark at the slash, if one begins there.
func remark(src []byte, at int) (int, bool) {
	if at+1 == len(src) || src[at+1] != '/' {
		return 0, false
	}
	return behind(src, at, func(b byte) bool { return b != newline }), true
}
