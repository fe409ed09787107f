package print

import (
	"strings"

	"keystone/api"
	"keystone/lexis"
)

// writer has the text of all that was written.
type writer struct {
	text strings.Builder
}

// must gives up, if no text says what is to be written.
func must(sayable bool) {
	if !sayable {
		panic(api.ErrPrint)
	}
}

// add writes texts one behind the other. What stands behind the greatest text is left out, and not refused: whether a text says it comes first.
func (w *writer) add(l ...string) {
	for _, s := range l {
		if w.text.Len() <= api.MaxText {
			w.text.WriteString(s)
		}
	}
}

// list writes so many things, and what stands between any two.
func (w *writer) list(many int, write func(i int)) {
	for i := range many {
		if i > 0 {
			w.add(", ")
		}
		write(i)
	}
}

func (w *writer) name(s string) {
	must(lexis.Name(s))
	w.add(s)
}

func (w *writer) names(l []string) {
	w.list(len(l), func(i int) { w.name(l[i]) })
}

// terms writes terms at a depth, and the parentheses around them.
func (w *writer) terms(l []api.Term, depth int) {
	w.add("(")
	w.list(len(l), func(i int) { w.term(l[i], depth) })
	w.add(")")
}
