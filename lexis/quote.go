package lexis

import "keystone/api"

const hexBase = 16

// Quote is bytes as they stand in a text.
func Quote(s string) (string, api.Errno) {
	if len(s) > api.MaxBytes {
		return "", api.ErrLong
	}
	b := []byte{byte(quoteSign)}
	for i := range len(s) {
		b = appendQuoted(b, rune(s[i]))
	}
	return string(append(b, byte(quoteSign))), api.OK
}

// appendQuoted puts a byte, as it stands between quotes, behind some others.
func appendQuoted(b []byte, c rune) []byte {
	const digits = "0123456789abcdef"
	switch {
	case isPlain(c):
		return append(b, byte(c))
	case c == quoteSign || c == escapeSign:
		return append(b, byte(escapeSign), byte(c))
	case c == '\n':
		return append(b, byte(escapeSign), 'n')
	case c == '\t':
		return append(b, byte(escapeSign), 't')
	}
	return append(b, byte(escapeSign), 'x', digits[c/hexBase], digits[c%hexBase])
}

// Unquote are the bytes that a text says, which is all between quotes.
func Unquote(s string) (string, api.Errno) {
	r := reader{text: s}
	if r.look() != quoteSign {
		return "", api.ErrLexQuote
	}
	said, ok := r.quoted()
	if !ok || r.at < len(s) {
		return "", api.ErrLexQuote
	}
	if len(said) > api.MaxBytes {
		return "", api.ErrLong
	}
	return string(said), api.OK
}

// quoted reads from a quote up to behind the next one, and tells what stands between; false: the byte that is looked at next can't stand there.
func (r *reader) quoted() ([]byte, bool) {
	var said []byte
	var c rune
	var high, low byte
	var ok bool

inside:
	r.at++
	c = r.look()
	switch {
	case c == quoteSign:
		r.at++
		return said, true
	case c == escapeSign:
		goto escaped
	case isPlain(c):
		said = append(said, byte(c))
		goto inside
	}
	return nil, false

escaped:
	r.at++
	c = r.look()
	switch c {
	case quoteSign, escapeSign:
		said = append(said, byte(c))
		goto inside
	case 'n':
		said = append(said, '\n')
		goto inside
	case 't':
		said = append(said, '\t')
		goto inside
	case 'x':
		goto digits
	}
	return nil, false

digits:
	r.at++
	if high, ok = hexDigit(r.look()); !ok {
		return nil, false
	}
	r.at++
	if low, ok = hexDigit(r.look()); !ok {
		return nil, false
	}
	said = append(said, high*hexBase+low)
	goto inside
}
