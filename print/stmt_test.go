package print_test

import (
	"math"
	"strings"
	"testing"

	"keystone/api"
	"keystone/print"
)

func TestEachStatement(t *testing.T) { // P14.1
	ab := term(api.XAdd, a, b)
	for _, x := range []struct {
		is   api.Stmt
		text string
	}{
		{api.Stmt{Op: api.SLet, Names: names("x"), Args: terms(ab)}, "\tlet x = a + b;\n"},
		{api.Stmt{Op: api.SAssign, Names: names("x"), Args: terms(ab)}, "\tx = a + b;\n"},
		{api.Stmt{Op: api.SIf, Args: terms(a)}, "\tif a {\n\t}\n"},
		{api.Stmt{Op: api.SWhile, Args: terms(a)}, "\twhile a {\n\t}\n"},
		{api.Stmt{Op: api.SGet, Table: "t", Args: terms(ab)}, "\tget = t(a + b);\n"},
		{api.Stmt{Op: api.SGet, Names: names("x"), Table: "t", Args: terms(a)}, "\tget x = t(a);\n"},
		{api.Stmt{Op: api.SGet, Names: names("x y x"), Table: "t", Args: terms(a, b)}, "\tget x, y, x = t(a, b);\n"},
		{api.Stmt{Op: api.SHas, Names: names("x"), Table: "t", Args: terms(a)}, "\thas x = t(a);\n"},
		{api.Stmt{Op: api.SPut, Table: "t", Args: terms(a)}, "\tput t(a) = ();\n"},
		{api.Stmt{Op: api.SPut, Table: "t", Args: terms(a, b), Vals: terms(ab, c)}, "\tput t(a, b) = (a + b, c);\n"},
		{api.Stmt{Op: api.SAdd, Table: "t", Args: terms(a), Vals: terms(c)}, "\tadd t(a) = (c);\n"},
		{api.Stmt{Op: api.SChange, Table: "t", Args: terms(a), Vals: terms(c, c)}, "\tchange t(a) = (c, c);\n"},
		{api.Stmt{Op: api.SDel, Table: "t", Args: terms(a, b)}, "\tdel t(a, b);\n"},
		{api.Stmt{Op: api.SFor, Names: names("x"), Table: "t"}, "\tfor x in t() to () {\n\t}\n"},
		{api.Stmt{Op: api.SFor, Names: names("x y"), Table: "t", Args: terms(a), Vals: terms(b, c)}, "\tfor x, y in t(a) to (b, c) {\n\t}\n"},
		{api.Stmt{Op: api.SRaise, Args: terms(ab)}, "\traise a + b;\n"},
		{api.Stmt{Op: api.SReturn, Args: terms(ab)}, "\treturn a + b;\n"},
	} {
		wantStmt(t, x.is, x.text)
		x.is.At = -5
		wantStmt(t, x.is, x.text) // no At is looked at
	}
}

func TestStatementsWithin(t *testing.T) { // P14.1
	x := api.Stmt{Op: api.SReturn, Args: terms(a)}
	y := api.Stmt{Op: api.SDel, Table: "t", Args: terms(b)}
	wantStmt(t, api.Stmt{Op: api.SIf, Args: terms(c), Body: stmts(x, y)}, "\tif c {\n\t\treturn a;\n\t\tdel t(b);\n\t}\n")
	wantStmt(t, api.Stmt{Op: api.SIf, Args: terms(c), Body: stmts(x), Else: stmts(y, x)}, "\tif c {\n\t\treturn a;\n\t} else {\n\t\tdel t(b);\n\t\treturn a;\n\t}\n")
	wantStmt(t, api.Stmt{Op: api.SIf, Args: terms(c), Else: stmts(y)}, "\tif c {\n\t} else {\n\t\tdel t(b);\n\t}\n")
	wantStmt(t, api.Stmt{Op: api.SWhile, Args: terms(c), Body: stmts(y, x)}, "\twhile c {\n\t\tdel t(b);\n\t\treturn a;\n\t}\n")
	wantStmt(t, api.Stmt{Op: api.SFor, Names: names("k"), Table: "t", Body: stmts(x, y)}, "\tfor k in t() to () {\n\t\treturn a;\n\t\tdel t(b);\n\t}\n")
	inner := api.Stmt{Op: api.SIf, Args: terms(a), Body: stmts(x), Else: stmts(x)}
	wantStmt(t, api.Stmt{Op: api.SIf, Args: terms(b), Body: stmts(inner), Else: stmts(inner)},
		"\tif b {\n\t\tif a {\n\t\t\treturn a;\n\t\t} else {\n\t\t\treturn a;\n\t\t}\n\t} else {\n\t\tif a {\n\t\t\treturn a;\n\t\t} else {\n\t\t\treturn a;\n\t\t}\n\t}\n")
}

// fields is the chapter's table, a line an Op: how many Names, whether a Table, how many Args, Vals, Body and Else.
const fields = `
SLet    1    -    1    -    -    -
SAssign 1    -    1    -    -    -
SIf     -    -    1    -    any  any
SWhile  -    -    1    -    any  -
SGet    any  name more -    -    -
SHas    1    name more -    -    -
SPut    -    name more any  -    -
SAdd    -    name more any  -    -
SChange -    name more any  -    -
SDel    -    name more -    -    -
SFor    more name any  any  any  -
SRaise  -    -    1    -    -    -
SReturn -    -    1    -    -    -
`

func agrees(rule string, n int) bool {
	switch rule {
	case "-":
		return n == 0
	case "1", "name":
		return n == 1
	case "more":
		return n > 0
	}
	return true
}

func TestStatementsHaveNothingElse(t *testing.T) { // P14.1: each number of each thing
	tables := []string{"", "t"}
	rows := strings.Split(strings.TrimSpace(fields), "\n")
	for i, row := range rows {
		rules := strings.Fields(row)[1:]
		for all := range 3 * 2 * 3 * 3 * 3 * 3 {
			n := []int{all / 162 % 3, all / 81 % 2, all / 27 % 3, all / 9 % 3, all / 3 % 3, all % 3}
			x := api.Stmt{
				Op: i + 1, Names: names("a b")[:n[0]], Table: tables[n[1]], Args: terms(a, b)[:n[2]], Vals: terms(a, b)[:n[3]],
				Body: stmts(aStmt(), aStmt())[:n[4]], Else: stmts(aStmt(), aStmt())[:n[5]],
			}
			right := true
			for i, rule := range rules {
				right = right && agrees(rule, n[i])
			}
			if _, e := print.Stmt(x, 1); right != (e == api.OK) {
				t.Fatalf("%+v: %v", x, e)
			}
			if !right {
				wantNoStmt(t, x, 1, api.ErrPrint)
			}
		}
	}
	if len(rows) != api.SReturn {
		t.Error(len(rows))
	}
}

// aStmt is one that says little, new each time, as some tests change what they have.
func aStmt() api.Stmt { return api.Stmt{Op: api.SReturn, Args: terms(number(1))} }

// eachSort is one statement of each Op.
func eachSort() []api.Stmt {
	return []api.Stmt{
		{Op: api.SLet, Names: names("x"), Args: terms(a)},
		{Op: api.SAssign, Names: names("x"), Args: terms(a)},
		{Op: api.SIf, Args: terms(a), Body: stmts(aStmt(), aStmt()), Else: stmts(aStmt(), aStmt())},
		{Op: api.SWhile, Args: terms(a), Body: stmts(aStmt(), aStmt())},
		{Op: api.SGet, Names: names("x y"), Table: "t", Args: terms(a, b)},
		{Op: api.SHas, Names: names("x"), Table: "t", Args: terms(a, b)},
		{Op: api.SPut, Table: "t", Args: terms(a, b), Vals: terms(a, b)},
		{Op: api.SAdd, Table: "t", Args: terms(a, b), Vals: terms(a, b)},
		{Op: api.SChange, Table: "t", Args: terms(a, b), Vals: terms(a, b)},
		{Op: api.SDel, Table: "t", Args: terms(a, b)},
		{Op: api.SFor, Names: names("x y"), Table: "t", Args: terms(a, b), Vals: terms(a, b), Body: stmts(aStmt(), aStmt())},
		{Op: api.SRaise, Args: terms(a)},
		{Op: api.SReturn, Args: terms(a)},
	}
}

func TestNoSuchStatement(t *testing.T) { // P14.1
	for _, x := range eachSort() {
		for _, op := range []int{0, -1, 14, 99, math.MinInt, math.MaxInt} {
			x.Op = op
			wantNoStmt(t, x, 1, api.ErrPrint)
		}
	}
	wantNoStmt(t, api.Stmt{}, 1, api.ErrPrint)
}

func TestWhatNoTextSaysWithinStatements(t *testing.T) { // P14.1: in each place of each statement
	for i := range eachSort() {
		for _, s := range notNames() {
			for at := range eachSort()[i].Names {
				x := eachSort()[i]
				x.Names[at] = s
				wantNoStmt(t, x, 1, api.ErrPrint)
			}
			if x := eachSort()[i]; x.Table != "" {
				x.Table = s
				wantNoStmt(t, x, 1, api.ErrPrint)
			}
		}
		for at := range eachSort()[i].Args {
			x := eachSort()[i]
			x.Args[at] = term(api.XAdd, a, number(-1))
			wantNoStmt(t, x, 1, api.ErrPrint)
		}
		for at := range eachSort()[i].Vals {
			x := eachSort()[i]
			x.Vals[at] = variable("put")
			wantNoStmt(t, x, 1, api.ErrPrint)
		}
		for at := range eachSort()[i].Body {
			x := eachSort()[i]
			x.Body[at].Args = nil
			wantNoStmt(t, x, 1, api.ErrPrint)
		}
		for at := range eachSort()[i].Else {
			x := eachSort()[i]
			x.Else[at].Table = "t"
			wantNoStmt(t, x, 1, api.ErrPrint)
		}
	}
}

func TestDepthsThatMayNotBe(t *testing.T) { // P14.1
	for _, deep := range []int{0, -1, api.MaxDepth + 1, api.MaxDepth + 2, math.MinInt, math.MaxInt} {
		for _, x := range append(eachSort(), api.Stmt{}, api.Stmt{Op: 99}) { // ErrArg is the first one
			wantNoStmt(t, x, deep, api.ErrArg)
		}
	}
}
