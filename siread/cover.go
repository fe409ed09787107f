package siread

import "keystone/api"

// Covers tells whether two notes may be, and each key of the second one is one of the first.
func Covers(a, b api.Read) bool {
	if !mayBe(a) || !mayBe(b) || a.Table != b.Table {
		return false
	}
	from, to := span(a)
	fromB, toB := span(b)
	return from <= fromB && (to == "" || toB != "" && toB <= to)
}

// mayBe tells whether a note is of a kind, and has the keys of that kind alone.
func mayBe(x api.Read) bool {
	switch x.Kind {
	case api.RTable:
		if x.From != "" {
			return false
		}
		fallthrough
	case api.RKey:
		return x.To == ""
	case api.RRange:
		return x.To == "" || x.To > x.From
	}
	return false
}

// span is the keys of a note that may be as a range: from the first text on, below the second one. As no key is below the empty one, that one says that there is no end.
func span(x api.Read) (from, to string) {
	switch x.Kind {
	case api.RKey:
		x.To = x.From + "\x00" // no text is between these two
		fallthrough
	case api.RRange:
		return x.From, x.To
	}
	return "", ""
}
