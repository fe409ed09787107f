package lexis_test

import (
	"slices"
	"strings"
	"testing"

	"keystone/api"
	"keystone/lexis"
)

func TestWords(t *testing.T) { // P12.2
	want := strings.Fields("add bool bytes change del else false for get has helper if im in int len let point proc put raise re return table to true while")
	l := lexis.Words()
	if !slices.Equal(l, want) || !slices.IsSorted(l) {
		t.Errorf("Words: %v", l)
	}
}

func TestName(t *testing.T) { // P12.2
	for _, s := range []string{"a", "z", "a_", "a0", "x_1_", "lets", "let_", "le", "adds", "ad", "tables", "i", "r", strings.Repeat("a", api.MaxName)} {
		if !lexis.Name(s) {
			t.Errorf("%q is no name", s)
		}
	}
	for _, s := range append(lexis.Words(),
		"", "_", "_a", "0", "0a", "A", "aB", "a-b", "a b", " a", "a ", "a\n", "a#", "#a", "a.b", "a\x00", "\xc3\xb6", "a\xff", `"a"`, `""`, "(", "a(", "==",
		strings.Repeat("a", api.MaxName+1), strings.Repeat(" ", 1<<20), strings.Repeat("a", 1<<20)) {
		if lexis.Name(s) {
			t.Errorf("%.60q is a name", s)
		}
	}
}

func TestNameOfAllShortTexts(t *testing.T) { // P12.2: a name is a token that is no word, with nothing beside it
	eachText(allBytes(), 2, func(s string) {
		want := nameForm.FindString(s) == s && s != "" && !slices.Contains([]string{"if", "im", "in", "re", "to"}, s)
		if lexis.Name(s) != want {
			t.Errorf("Name(%q): not %v", s, want)
		}
	})
	eachText("adelnt ", 4, func(s string) {
		want := nameForm.FindString(s) == s && s != "" && !slices.Contains([]string{"add", "del", "let", "len"}, s)
		if lexis.Name(s) != want {
			t.Errorf("Name(%q): not %v", s, want)
		}
	})
}
