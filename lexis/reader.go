package lexis

import (
	"strconv"
	"strings"

	"keystone/api"
)

// reader goes through a text from its left, a token at a time, up to its end or its fault.
type reader struct {
	text  string
	at    int       // the byte that is looked at next
	token api.Token // the one that was read last
	fault api.Errno // what has ended the reading, if it was not the text's end
	place int       // of the fault
}

// look tells the byte that is looked at next, or end.
func (r *reader) look() rune {
	if r.at == len(r.text) {
		return end
	}
	return rune(r.text[r.at])
}

// next reads one token more; false: there is none, as the text ends, or something stands there that may not be.
func (r *reader) next() bool {
	var c rune
	var begin int // of the token

between:
	begin = r.at
	c = r.look()
	switch {
	case c == end:
		return false
	case isGap(c):
		r.at++
		goto between
	case c == remarkSign:
		goto remark
	case isLetter(c):
		goto name
	case isDigit(c):
		goto number
	case c == quoteSign:
		return r.endText(begin)
	}
	goto sign

remark:
	r.at++
	c = r.look()
	if c == end || c == lineEnd { // which is a gap as any other one
		goto between
	}
	goto remark

name:
	r.at++
	c = r.look()
	if isLetter(c) || isDigit(c) || c == joinSign {
		goto name
	}
	return r.endName(begin)

number:
	r.at++
	c = r.look()
	if isDigit(c) {
		goto number
	}
	if isLetter(c) || c == joinSign {
		return r.wrong(begin, api.ErrLexInt)
	}
	return r.endNumber(begin)

sign:
	r.at++
	return r.endSign(begin, c)
}

// found ends a token that is what it should be.
func (r *reader) found(t api.Token) bool {
	r.token = t
	return true
}

// wrong ends the reading.
func (r *reader) wrong(place int, e api.Errno) bool {
	r.place, r.fault = place, e
	return false
}

// since is what stands between a byte and the one that is looked at next: a copy, as whoever keeps a token should not keep the whole text.
func (r *reader) since(begin int) string {
	return strings.Clone(r.text[begin:r.at])
}

// endName ends a name behind its last byte.
func (r *reader) endName(begin int) bool {
	if r.at-begin > api.MaxName {
		return r.wrong(begin, api.ErrLexName)
	}
	return r.found(api.Token{Kind: api.TName, Text: r.since(begin), At: begin})
}

// endNumber ends a whole number behind its last digit.
func (r *reader) endNumber(begin int) bool {
	digits := r.text[begin:r.at]
	n, err := strconv.ParseInt(digits, 10, 64)
	if err != nil || digits[0] == '0' && len(digits) > 1 {
		return r.wrong(begin, api.ErrLexInt)
	}
	return r.found(api.Token{Kind: api.TInt, Val: api.Value{Kind: api.KInt, Int: n}, At: begin})
}

// endText reads all that stands between quotes.
func (r *reader) endText(begin int) bool {
	said, ok := r.quoted()
	if !ok {
		return r.wrong(r.at, api.ErrLexQuote)
	}
	if len(said) > api.MaxBytes {
		return r.wrong(begin, api.ErrLong)
	}
	return r.found(api.Token{Kind: api.TText, Val: api.Value{Kind: api.KBytes, Bytes: string(said)}, At: begin})
}

// endSign reads a sign's other byte, if it has one.
func (r *reader) endSign(begin int, first rune) bool {
	size := signSize(first, r.look())
	if size == 0 {
		return r.wrong(begin, api.ErrLexByte)
	}
	r.at = begin + size
	return r.found(api.Token{Kind: api.TSign, Text: r.since(begin), At: begin})
}
