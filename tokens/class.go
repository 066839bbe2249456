package tokens

// class: what a byte is to the cutter.
type class int

const (
	other class = iota
	blank
	small
	great
	digit
	under
	quote
	slash
)

const (
	newline   = 10
	backslash = 92
)

func classOf(b byte) class {
	switch {
	case b == 9 || b == newline || b == 13 || b == 32:
		return blank
	case 'a' <= b && b <= 'z':
		return small
	case 'A' <= b && b <= 'Z':
		return great
	case '0' <= b && b <= '9':
		return digit
	case b == '_':
		return under
	case b == '"':
		return quote
	case b == '/':
		return slash
	}
	return other
}

// of makes what tells of a byte whether it is of one of the classes.
func of(classes ...class) func(b byte) bool {
	var set uint
	for _, c := range classes {
		set |= 1 << c
	}
	return func(b byte) bool { return set>>classOf(b)&1 == 1 }
}

// inName makes what tells of a byte whether it may stand in a name, behind its first byte.
func inName() func(b byte) bool {
	return of(small, great, digit, under)
}

// behind is the first place from at on whose byte does not belong, or the end.
func behind(b []byte, at int, belongs func(b byte) bool) int {
	for at < len(b) && belongs(b[at]) {
		at++
	}
	return at
}

// isPlain tells whether the byte may stand in a text.
func isPlain(b byte) bool {
	return 32 <= b && b <= 126
}

// isEscaped tells whether the byte has a backslash ahead of it where a text is written.
func isEscaped(b byte) bool {
	return b == '"' || b == backslash
}
