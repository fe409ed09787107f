package tuple

import (
	"strconv"
	"strings"

	"keystone/api"
)

const (
	trueText, falseText = "true", "false"

	quoteSign = '"'
	escape    = '\\'
	hexDigits = "0123456789abcdef"
	hexBase   = 16
	hexSize   = 2 // digits of a byte

	firstPlain, lastPlain = 32, 126 // bytes that stand between quotes as they are, but for the two signs
)

// Text is a value's text.
func Text(v api.Value) (string, api.Errno) {
	if e := Check(v); e != api.OK {
		return "", e
	}
	switch v.Kind {
	case api.KInt:
		return intText(v.Int), api.OK
	case api.KBool:
		return boolText(v.Yes), api.OK
	case api.KBytes:
		return quote(v.Bytes), api.OK
	}
	return "(" + intText(int64(real(v.Point))) + "," + intText(int64(imag(v.Point))) + ")", api.OK
}

func intText(n int64) string {
	return strconv.FormatInt(n, 10)
}

func boolText(b bool) string {
	if b {
		return trueText
	}
	return falseText
}

// quote is bytes between quotes.
func quote(s string) string {
	b := []byte{quoteSign}
	for i := range len(s) {
		b = appendQuoted(b, s[i])
	}
	return string(append(b, quoteSign))
}

// appendQuoted puts a byte, as it stands between quotes, behind some others.
func appendQuoted(b []byte, c byte) []byte {
	switch {
	case c == quoteSign || c == escape:
		return append(b, escape, c)
	case c == '\n':
		return append(b, escape, 'n')
	case c == '\t':
		return append(b, escape, 't')
	case firstPlain <= c && c <= lastPlain:
		return append(b, c)
	}
	return append(b, escape, 'x', hexDigits[c/hexBase], hexDigits[c%hexBase])
}

// Parse is the value whose text this is.
func Parse(s string) (api.Value, api.Errno) {
	v := guess(s)
	// Many texts are guessed to be the same value: it has one alone.
	if text, e := Text(v); e != api.OK || text != s {
		return api.Value{}, api.ErrTupleText
	}
	return v, api.OK
}

// guess is the only value whose text this could be, or none.
func guess(s string) api.Value {
	switch {
	case s == trueText || s == falseText:
		return Bool(s == trueText)
	case strings.HasPrefix(s, "("):
		return guessPoint(s[1:])
	case strings.HasPrefix(s, `"`):
		return guessBytes(s[1:])
	}
	n, err := strconv.ParseInt(s, 10, 64)
	if err != nil {
		return api.Value{}
	}
	return Int(n)
}

// guessPoint is the point of a text behind its parenthesis.
func guessPoint(s string) api.Value {
	re, im, _ := strings.Cut(strings.TrimSuffix(s, ")"), ",")
	a, errRe := strconv.ParseInt(re, 10, 64)
	b, errIm := strconv.ParseInt(im, 10, 64)
	if errRe != nil || errIm != nil {
		return api.Value{}
	}
	return Point(a, b)
}

// guessBytes is the bytes of a text behind its first quote.
func guessBytes(s string) api.Value {
	var b []byte
	for s != "" && s[0] != quoteSign {
		c, size := guessByte(s)
		b = append(b, c)
		s = s[size:]
	}
	return Bytes(string(b))
}

// guessByte is the byte that a text between quotes begins with, and how many bytes say so.
func guessByte(s string) (byte, int) {
	if s[0] != escape || len(s) == 1 {
		return s[0], 1
	}
	switch s[1] {
	case 'n':
		return '\n', 2
	case 't':
		return '\t', 2
	case 'x':
		return guessHex(s[2:]), min(len(s), 2+hexSize)
	}
	return s[1], 2
}

// guessHex is the byte whose digits a text begins with.
func guessHex(s string) byte {
	n, err := strconv.ParseUint(s[:min(len(s), hexSize)], hexBase, 8)
	if err != nil {
		return 0
	}
	return byte(n)
}
