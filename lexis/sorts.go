package lexis

// Bytes are told apart as runes of the same numbers, so that there is one that is no byte.
const (
	end        rune = -1 // where no byte stands any more
	lineEnd    rune = '\n'
	remarkSign rune = '#'
	joinSign   rune = '_'
	quoteSign  rune = '"'
	escapeSign rune = '\\'
)

// isGap tells whether a byte says nothing between tokens.
func isGap(c rune) bool {
	return c == ' ' || c == '\t' || c == lineEnd || c == '\r'
}

func isLetter(c rune) bool {
	return 'a' <= c && c <= 'z'
}

func isDigit(c rune) bool {
	return '0' <= c && c <= '9'
}

// isPlain tells whether a byte stands between quotes as it is.
func isPlain(c rune) bool {
	return ' ' <= c && c <= '~' && c != quoteSign && c != escapeSign
}

// signSize is how many bytes the sign has that begins with a byte, ahead of another one; 0: none begins so.
func signSize(first, second rune) int {
	switch first {
	case '(', ')', '{', '}', ',', ';', ':', '+', '-', '*', '/', '%':
		return 1
	case '=', '!', '<':
		if second == '=' {
			return 2
		}
		return 1
	case '&', '|':
		if second == first {
			return 2
		}
	}
	return 0
}

// hexDigit is what a digit to the base 16 is worth; false: it is none.
func hexDigit(c rune) (byte, bool) {
	switch {
	case isDigit(c):
		return byte(c - '0'), true
	case 'a' <= c && c <= 'f':
		return byte(c-'a') + 10, true
	}
	return 0, false
}
