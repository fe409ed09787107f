package syntax_test

import (
	"strings"
	"testing"

	"keystone/api"
	"keystone/lexis"
)

func TestStatements(t *testing.T) { // P13.1
	a, b := variable("a", 0), variable("b", 0)
	at := func(x api.Term, at int) api.Term { x.At = at; return x }
	wantBody(t, "")
	wantBody(t, "let a = b;", api.Stmt{Op: api.SLet, Names: names("a"), Args: terms(at(b, 8))})
	wantBody(t, "a = b;", api.Stmt{Op: api.SAssign, Names: names("a"), Args: terms(at(b, 4))})
	wantBody(t, "if a {}", api.Stmt{Op: api.SIf, Args: terms(at(a, 3))})
	wantBody(t, "if a {} else {}", api.Stmt{Op: api.SIf, Args: terms(at(a, 3))})
	wantBody(t, "while a {}", api.Stmt{Op: api.SWhile, Args: terms(at(a, 6))})
	wantBody(t, "get = t(a);", api.Stmt{Op: api.SGet, Table: "t", Args: terms(at(a, 8))})
	wantBody(t, "get a = t(b);", api.Stmt{Op: api.SGet, Names: names("a"), Table: "t", Args: terms(at(b, 10))})
	wantBody(t, "get a, b, a = t(a, b);", api.Stmt{Op: api.SGet, Names: names("a b a"), Table: "t", Args: terms(at(a, 16), at(b, 19))})
	wantBody(t, "has a = t(a, b);", api.Stmt{Op: api.SHas, Names: names("a"), Table: "t", Args: terms(at(a, 10), at(b, 13))})
	wantBody(t, "put t(a) = ();", api.Stmt{Op: api.SPut, Table: "t", Args: terms(at(a, 6))})
	wantBody(t, "put t(a) = (b);", api.Stmt{Op: api.SPut, Table: "t", Args: terms(at(a, 6)), Vals: terms(at(b, 12))})
	wantBody(t, "add t(a, b) = (b, a);", api.Stmt{Op: api.SAdd, Table: "t", Args: terms(at(a, 6), at(b, 9)), Vals: terms(at(b, 15), at(a, 18))})
	wantBody(t, "change t(a) = (b);", api.Stmt{Op: api.SChange, Table: "t", Args: terms(at(a, 9)), Vals: terms(at(b, 15))})
	wantBody(t, "del t(a, b);", api.Stmt{Op: api.SDel, Table: "t", Args: terms(at(a, 6), at(b, 9))})
	wantBody(t, "for a in t() to () {}", api.Stmt{Op: api.SFor, Names: names("a"), Table: "t"})
	wantBody(t, "for a, b in t(a) to (b, a) {}", api.Stmt{Op: api.SFor, Names: names("a b"), Table: "t", Args: terms(at(a, 14)), Vals: terms(at(b, 21), at(a, 24))})
	wantBody(t, "raise a;", api.Stmt{Op: api.SRaise, Args: terms(at(a, 6))})
	wantBody(t, "return a;", api.Stmt{Op: api.SReturn, Args: terms(at(a, 7))})
}

func TestStatementsWithinOneAnother(t *testing.T) { // P13.1
	leave := func(op, at int) api.Stmt {
		return api.Stmt{Op: op, At: at, Args: terms(number(1, at+map[int]int{api.SRaise: 6, api.SReturn: 7}[op]))}
	}
	wantBody(t, " raise 1; return 1;raise 1;", leave(api.SRaise, 1), leave(api.SReturn, 10), leave(api.SRaise, 19))
	wantBody(t, "if a { raise 1; return 1; } else { raise 1; } return 1;",
		api.Stmt{Op: api.SIf, Args: terms(variable("a", 3)), Body: []api.Stmt{leave(api.SRaise, 7), leave(api.SReturn, 16)}, Else: []api.Stmt{leave(api.SRaise, 35)}},
		leave(api.SReturn, 46))
	wantBody(t, "if a {} else { raise 1; }", api.Stmt{Op: api.SIf, Args: terms(variable("a", 3)), Else: []api.Stmt{leave(api.SRaise, 15)}})
	wantBody(t, "while a { if b { raise 1; } }", api.Stmt{Op: api.SWhile, Args: terms(variable("a", 6)), Body: []api.Stmt{
		{Op: api.SIf, At: 10, Args: terms(variable("b", 13)), Body: []api.Stmt{leave(api.SRaise, 17)}}}})
	wantBody(t, "for a in t() to () { for b in u() to () { return 1; } raise 1; }", api.Stmt{Op: api.SFor, Names: names("a"), Table: "t", Body: []api.Stmt{
		{Op: api.SFor, At: 21, Names: names("b"), Table: "u", Body: []api.Stmt{leave(api.SReturn, 42)}}, leave(api.SRaise, 54)}})
	wantBody(t, "if a { } if b { } else { }", api.Stmt{Op: api.SIf, Args: terms(variable("a", 3))}, api.Stmt{Op: api.SIf, At: 9, Args: terms(variable("b", 12))})
}

func TestStatementsThatMayNotBe(t *testing.T) { // P13.1: each breaks at its last token, or its end
	for _, x := range []struct {
		s  string
		at int
	}{
		{"let", 3}, {"let let", 4}, {"let 1", 4}, {"let a", 5}, {"let a a", 6}, {"let a ==", 6}, {"let a =", 7}, {"let a = ;", 8}, {"let a = let", 8}, {"let a = 1", 9}, {"let a = 1 }", 10}, {"let a = 1 =", 10}, {"let a, ", 5},
		{"a", 1}, {"a a", 2}, {"a ;", 2}, {"a (", 2}, {"a , ", 2}, {"a =", 3}, {"a = ;", 4}, {"a = 1", 5}, {"a = 1 }", 6}, {"a = b = ", 6},
		{"1", 0}, {`"a"`, 0}, {"(", 0}, {"{", 0}, {"-", 0}, {"else", 0}, {"in", 0}, {"to", 0}, {"int", 0}, {"true", 0}, {"len", 0}, {"table", 0}, {"proc", 0}, {"helper", 0},
		{"if", 2}, {"if {", 3}, {"if if", 3}, {"if a", 4}, {"if a ;", 5}, {"if a {", 6}, {"if a { else", 7}, {"if a {};", 7}, {"if a {} else", 12}, {"if a {} else ;", 13}, {"if a {} else if", 13}, {"if a {} else {", 14}, {"if a {} else {} else", 16}, {"if = ", 3},
		{"while", 5}, {"while {", 6}, {"while a", 7}, {"while a ;", 8}, {"while a {", 9}, {"while a {} else", 11},
		{"get", 3}, {"get ,", 4}, {"get (", 4}, {"get 1", 4}, {"get a", 5}, {"get a b", 6}, {"get a,", 6}, {"get a,=", 6}, {"get =", 5}, {"get = (", 6}, {"get = t", 7}, {"get = t;", 7}, {"get = t(", 8}, {"get = t()", 8}, {"get = t(a", 9}, {"get = t(a;", 9}, {"get = t(a,", 10}, {"get = t(a,)", 10}, {"get = t(a)", 10}, {"get = t(a) = ", 11}, {"get = int", 6},
		{"has", 3}, {"has =", 4}, {"has a", 5}, {"has a,", 5}, {"has a =", 7}, {"has a = t", 9}, {"has a = t(", 10}, {"has a = t()", 10}, {"has a = t(b)", 12}, {"has a = t(b)}", 12},
		{"put", 3}, {"put (", 4}, {"put t", 5}, {"put t =", 6}, {"put t(", 6}, {"put t()", 6}, {"put t(a)", 8}, {"put t(a);", 8}, {"put t(a) =", 10}, {"put t(a) = a", 11}, {"put t(a) = (", 12}, {"put t(a) = (,", 12}, {"put t(a) = (;", 12}, {"put t(a) = (a", 13}, {"put t(a) = (a,", 14}, {"put t(a) = (a,)", 14}, {"put t(a) = ()", 13}, {"put t(a) = ()}", 13}, {"put a = t(", 6},
		{"add", 3}, {"add t()", 6}, {"add t(a);", 8}, {"add t(a) = ()", 13}, {"change", 6}, {"change t()", 9}, {"change t(a);", 11}, {"change t(a) = ()", 16},
		{"del", 3}, {"del del", 4}, {"del t", 5}, {"del t;", 5}, {"del t(", 6}, {"del t()", 6}, {"del t(a)", 8}, {"del t(a) =", 9}, {"del t(a)}", 8}, {"del a = ", 6},
		{"for", 3}, {"for in", 4}, {"for =", 4}, {"for a", 5}, {"for a =", 6}, {"for a,", 6}, {"for a, in", 7}, {"for a in", 8}, {"for a in (", 9}, {"for a in in", 9}, {"for a in t", 10}, {"for a in t to", 11}, {"for a in t(", 11}, {"for a in t(,", 11}, {"for a in t(a", 12}, {"for a in t(a,", 13}, {"for a in t(a,)", 13}, {"for a in t()", 12}, {"for a in t() {", 13}, {"for a in t() to", 15}, {"for a in t() to {", 16}, {"for a in t() to t", 16}, {"for a in t() to (", 17}, {"for a in t() to (;", 17}, {"for a in t() to ()", 18}, {"for a in t() to ();", 18}, {"for a in t() to (){", 19}, {"for a in t() to (){} else", 21},
		{"raise", 5}, {"raise ;", 6}, {"raise }", 6}, {"raise 1", 7}, {"raise 1,", 7}, {"raise 1}", 7}, {"raise = ", 6},
		{"return", 6}, {"return ;", 7}, {"return 1", 8}, {"return 1,", 8}, {"return 1}", 8}, {"return return", 7},
		{";", 0}, {"a = 1;;", 6}, {"a = 1; 1", 7},
	} {
		wantFault(t, procHead+x.s, len(procHead)+x.at, api.ErrSyntax)
		wantFault(t, procHead+" if a { "+x.s, len(procHead)+8+x.at, api.ErrSyntax)
	}
}

func TestWordsAreNoNames(t *testing.T) { // P13.1
	for _, s := range []string{
		"table NAME", "table t(NAME", "table t(a int, NAME", "table t(a int; b int, NAME", "proc NAME", "helper NAME", "proc p(a int, NAME",
		procHead + "let NAME", procHead + "get a, NAME", procHead + "get = NAME", procHead + "has NAME", procHead + "has a = NAME",
		procHead + "put NAME", procHead + "add NAME", procHead + "change NAME", procHead + "del NAME", procHead + "for NAME", procHead + "for a, NAME", procHead + "for a in NAME",
	} {
		at := len(s) - len("NAME")
		for _, w := range lexis.Words() {
			wantFault(t, s[:at]+w, at, api.ErrSyntax)
		}
		for _, ok := range []string{"x", "lets", "let_", "ints", "tables", strings.Repeat("a", api.MaxName)} {
			wantFault(t, s[:at]+ok, at+len(ok), api.ErrSyntax)
		}
	}
	for _, w := range lexis.Words() {
		switch w {
		case "true", "false":
			wantTerm(t, w, truth(w == "true", 0))
		case "len", "re", "im", "point":
			wantTermFault(t, w, len(w), api.ErrSyntax)
			wantTermFault(t, w+" +", len(w)+1, api.ErrSyntax)
		default:
			wantTermFault(t, w, 0, api.ErrSyntax)
			wantTermFault(t, "f("+w+")", 2, api.ErrSyntax)
		}
	}
}
