package syntax

import "keystone/api"

// module reads tables and procedures up to the first token that begins neither.
func (p *parser) module() api.Module {
	var m api.Module
	for {
		switch p.look().Text {
		case "table":
			m.Tables = append(m.Tables, p.table())
		case "proc", "helper":
			m.Procs = append(m.Procs, p.proc())
		default:
			return m
		}
	}
}

func (p *parser) table() api.Table {
	t := api.Table{At: p.next().At}
	t.Name = p.name()
	p.must("(")
	t.Key = p.columns()
	p.must(";")
	if !p.is(")") {
		t.Val = p.columns()
	}
	p.must(")")
	p.must(";")
	return t
}

func (p *parser) proc() api.Proc {
	first := p.next()
	made := api.Proc{Helper: first.Text == "helper", At: first.At}
	made.Name = p.name()
	p.must("(")
	if !p.is(")") {
		made.Params = p.columns()
	}
	p.must(")")
	made.Result = p.kind()
	made.Body = p.block(1)
	return made
}

// columns reads one column or more.
func (p *parser) columns() []api.Column {
	l := []api.Column{p.column()}
	for p.has(",") {
		l = append(l, p.column())
	}
	return l
}

func (p *parser) column() api.Column {
	name := p.name()
	return api.Column{Name: name, Kind: p.kind()}
}

func (p *parser) kind() int {
	kind := kindOf(p.look().Text)
	if kind == api.KNone {
		p.refuse()
	}
	p.next()
	return kind
}

func kindOf(word string) int {
	switch word {
	case "int":
		return api.KInt
	case "bool":
		return api.KBool
	case "bytes":
		return api.KBytes
	case "point":
		return api.KPoint
	}
	return api.KNone
}
