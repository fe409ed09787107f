package syntax_test

import (
	"strings"
	"testing"

	"keystone/api"
	"keystone/lexis"
	"keystone/syntax"
)

func TestExamples(t *testing.T) { // P13.1
	wantModule(t, "table t(a int;);", api.Module{Tables: []api.Table{{Name: "t", Key: []api.Column{column("a", api.KInt)}}}})
	wantModule(t, "proc p() int { return 1 + 2 * 3; }", inProc(
		api.Stmt{Op: api.SReturn, At: 15, Args: terms(term(api.XAdd, 24, number(1, 22), term(api.XMul, 28, number(2, 26), number(3, 30))))}))
	wantTermFault(t, "a < b < c", 6, api.ErrSyntax)
	wantFault(t, "proc p() int { return ", 22, api.ErrSyntax)
}

func TestTables(t *testing.T) { // P13.1
	one := []api.Column{column("a", api.KInt)}
	all := []api.Column{column("a", api.KInt), column("b", api.KBool), column("c", api.KBytes), column("d", api.KPoint)}
	wantModule(t, "", api.Module{})
	wantModule(t, " # nothing", api.Module{})
	wantModule(t, "table t(a int, b bool, c bytes, d point;);", api.Module{Tables: []api.Table{{Name: "t", Key: all}}})
	wantModule(t, "table t(a int; a int, b bool, c bytes, d point);", api.Module{Tables: []api.Table{{Name: "t", Key: one, Val: all}}})
	wantModule(t, "table t(a int;a int);", api.Module{Tables: []api.Table{{Name: "t", Key: one, Val: one}}}) // what is right is asked elsewhere
	wantModule(t, " table t(a int;);table u(d point;);", api.Module{Tables: []api.Table{{Name: "t", Key: one, At: 1}, {Name: "u", Key: all[3:], At: 17}}})
	for _, x := range []struct {
		s  string
		at int
	}{
		{"t", 0}, {"(", 0}, {"1", 0}, {`"table"`, 0}, {"int", 0}, {";", 0},
		{"table", 5}, {"table table", 6}, {"table int", 6}, {"table 1", 6}, {"table (", 6},
		{"table t", 7}, {"table t;", 7}, {"table t(", 8}, {"table t()", 8}, {"table t(;", 8}, {"table t(int", 8},
		{"table t(a", 9}, {"table t(a;", 9}, {"table t(a b", 10}, {"table t(a table", 10}, {"table t(a \"int\"", 10},
		{"table t(a int", 13}, {"table t(a int)", 13}, {"table t(a int b", 14}, {"table t(a int,", 14}, {"table t(a int,;", 14},
		{"table t(a int;", 14}, {"table t(a int;,", 14}, {"table t(a int;;", 14}, {"table t(a int; b", 16}, {"table t(a int; b)", 16}, {"table t(a int; b int;", 20}, {"table t(a int; b int,)", 21},
		{"table t(a int;)", 15}, {"table t(a int;) table", 16}, {"table t(a int;);;", 16}, {"table t(a int;); t", 17},
	} {
		wantFault(t, x.s, x.at, api.ErrSyntax)
	}
}

func TestProcs(t *testing.T) { // P13.1
	wantModule(t, "proc p() int {}", inProc())
	wantModule(t, "helper h(a int, b point) bytes{}", api.Module{Procs: []api.Proc{
		{Name: "h", Helper: true, Params: []api.Column{column("a", api.KInt), column("b", api.KPoint)}, Result: api.KBytes}}})
	wantModule(t, " proc p(a bool) point {} helper p() bool {} table t(a int;); proc q() int {}", api.Module{
		Tables: []api.Table{{Name: "t", Key: []api.Column{column("a", api.KInt)}, At: 44}},
		Procs: []api.Proc{
			{Name: "p", Params: []api.Column{column("a", api.KBool)}, Result: api.KPoint, At: 1},
			{Name: "p", Helper: true, Result: api.KBool, At: 25},
			{Name: "q", Result: api.KInt, At: 61},
		}})
	for _, x := range []struct {
		s  string
		at int
	}{
		{"proc", 4}, {"proc proc", 5}, {"proc 1", 5}, {"proc p", 6}, {"proc p int", 7}, {"proc p(", 7}, {"proc p(,", 7}, {"proc p(;", 7}, {"proc p(int", 7},
		{"proc p(a", 8}, {"proc p(a)", 8}, {"proc p(a int", 12}, {"proc p(a int;", 12}, {"proc p(a int,", 13}, {"proc p(a int,)", 13},
		{"proc p()", 8}, {"proc p() {", 9}, {"proc p() p", 9}, {"proc p() int", 12}, {"proc p() int int", 13}, {"proc p() int;", 12}, {"proc p() int }", 13},
		{"proc p() int {", 14}, {"proc p() int {;", 14}, {"proc p() int {{", 14}, {"proc p() int {};", 15}, {"proc p() int {}}", 15},
		{"proc helper p", 5}, {"helper proc p", 7}, {"helper h() int", 14}, {"proc p() int {} p", 16},
	} {
		wantFault(t, x.s, x.at, api.ErrSyntax)
	}
}

func TestFaultsOfTokens(t *testing.T) { // P13.1: they come first, wherever they stand
	for _, s := range []string{"", "table t(a int;);", ") (", procHead, strings.Repeat("(", 70)} {
		for _, bad := range []string{" $", " &", " 01", " 9a", ` "\q"`, ` "`, " A"} {
			_, at, e := lexis.Tokens(s + bad)
			wantFault(t, s+bad, at, e)
			wantTermFault(t, s+bad, at, e)
			if e < api.ErrLexByte || e > api.ErrLexQuote || at < len(s) {
				t.Errorf("%q: %d, %v", s+bad, at, e)
			}
		}
	}
	long := ")" + strings.Repeat(" ", api.MaxText)
	wantFault(t, long, api.MaxText, api.ErrLong)
	wantTermFault(t, long, api.MaxText, api.ErrLong)
	wantFault(t, long[:api.MaxText], 0, api.ErrSyntax)
	wantModule(t, strings.Repeat(" ", api.MaxText), api.Module{})
	wantFault(t, "proc "+strings.Repeat("p", api.MaxName+1), 5, api.ErrLexName)
	wantTermFault(t, "x)"+`"`+strings.Repeat("p", api.MaxBytes+1)+`"`, 2, api.ErrLong)
}

func TestParseTermTakesOneTerm(t *testing.T) { // P13.1
	wantTermFault(t, "", 0, api.ErrSyntax)
	wantTermFault(t, " \n", 2, api.ErrSyntax)
	wantTermFault(t, "a b", 2, api.ErrSyntax)
	wantTermFault(t, "a ;", 2, api.ErrSyntax)
	wantTermFault(t, "a , b", 2, api.ErrSyntax)
	wantTermFault(t, "table t(a int;);", 0, api.ErrSyntax)
	wantFault(t, "1", 0, api.ErrSyntax)
	if x, _, e := syntax.ParseTerm(" a # a term"); e != api.OK || said(x) != said(variable("a", 1)) {
		t.Error(x, e)
	}
}
