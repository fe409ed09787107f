package print

import "keystone/api"

func (w *writer) module(m api.Module) {
	for _, t := range m.Tables {
		w.table(t)
	}
	for _, p := range m.Procs {
		w.proc(p)
	}
}

func (w *writer) table(t api.Table) {
	must(len(t.Key) > 0)
	w.add("table ")
	w.name(t.Name)
	w.add("(")
	w.columns(t.Key)
	w.add(";")
	if len(t.Val) > 0 {
		w.add(" ")
		w.columns(t.Val)
	}
	w.add(");\n")
}

func (w *writer) proc(p api.Proc) {
	if p.Helper {
		w.add("helper ")
	} else {
		w.add("proc ")
	}
	w.name(p.Name)
	w.add("(")
	w.columns(p.Params)
	w.add(") ")
	w.kind(p.Result)
	w.add(" {\n")
	w.stmts(p.Body, 1)
	w.add("}\n")
}

func (w *writer) columns(l []api.Column) {
	w.list(len(l), func(i int) {
		w.name(l[i].Name)
		w.add(" ")
		w.kind(l[i].Kind)
	})
}

func (w *writer) kind(kind int) {
	word := Kind(kind)
	must(word != "")
	w.add(word)
}
