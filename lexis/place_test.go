package lexis_test

import (
	"math"
	"strings"
	"testing"

	"keystone/api"
	"keystone/lexis"
)

func TestPlace(t *testing.T) { // P12.4
	for _, x := range []struct {
		s                string
		at, line, column int
	}{
		{"ab\nc", 0, 1, 1}, {"ab\nc", 1, 1, 2}, {"ab\nc", 2, 1, 3}, {"ab\nc", 3, 2, 1}, {"ab\nc", 4, 2, 2},
		{"", 0, 1, 1}, {"\n", 0, 1, 1}, {"\n", 1, 2, 1}, {"\n\n\n", 3, 4, 1}, {"a\n\nb", 2, 2, 1}, {"a\n\nb", 3, 3, 1},
		{"a\r\nb", 2, 1, 3}, {"a\r\nb", 3, 2, 1}, // only a byte 10 ends a line
		{"a\tb", 2, 1, 3}, {"ö\x00ü", 3, 1, 4}, // columns are bytes
		{strings.Repeat("a\n", 1<<17), 1 << 18, 1<<17 + 1, 1}, {strings.Repeat("a", 1<<18), 1 << 18, 1, 1<<18 + 1}, // of any length
	} {
		if line, column, e := lexis.Place(x.s, x.at); line != x.line || column != x.column || e != api.OK {
			t.Errorf("Place(%.40q, %d): %d, %d, %v, not %d, %d", x.s, x.at, line, column, e, x.line, x.column)
		}
	}
}

func TestPlacesThatThereAreNot(t *testing.T) { // P12.4
	for _, s := range []string{"", "ab", "a\nb\n"} {
		for _, at := range []int{-1, len(s) + 1, math.MinInt, math.MaxInt} {
			if line, column, e := lexis.Place(s, at); line != 0 || column != 0 || e != api.ErrArg {
				t.Errorf("Place(%q, %d): %d, %d, %v", s, at, line, column, e)
			}
		}
	}
}

func TestPlacesOfAllBytes(t *testing.T) { // P12.4: one goes through the text, byte by byte
	n := numbers(4)
	for range 500 {
		s := anyBytes(&n, 40)
		line, column := 1, 1
		for at := range len(s) + 1 {
			if gotLine, gotColumn, e := lexis.Place(s, at); gotLine != line || gotColumn != column || e != api.OK {
				t.Fatalf("Place(%q, %d): %d, %d, %v, not %d, %d", s, at, gotLine, gotColumn, e, line, column)
			}
			column++
			if at < len(s) && s[at] == 10 {
				line, column = line+1, 1
			}
		}
	}
}
