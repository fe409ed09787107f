package eval_test

import (
	"strings"
	"testing"

	"keystone/api"
	"keystone/eval"
)

func TestExamples(t *testing.T) { // of the chapter
	m := read(t, "table t(k int; v int); proc f(a int) int { return a + 1; } proc g() int { get v = t(1); return v; } proc r() int { raise -1; } proc e() int { } proc on() int { for k, v in t() to () { put t(k + 1) = (v); } }")
	none := "t:"
	wantRun(t, m, "f", vals(t, "4"), nil, "5", none, 4)
	wantRun(t, m, "f", vals(t, "9223372036854775807"), nil, "over", none, 4)
	wantRun(t, m, "g", nil, nil, "missing", none, 2)
	wantRun(t, m, "r", nil, nil, "over", none, 3)
	wantRun(t, m, "e", nil, nil, "end", none, 0)
	wantRun(t, m, "on", nil, content(t, "t: 1|7"), "fuel", "t: 1|7", 1000)
	if o, _, spent, e := eval.Run(m, "f", vals(t, "4"), nil, 3); toldEnd(o) != "fuel" || spent != 3 || e != api.OK {
		t.Error(toldEnd(o), spent, e)
	}
	if o, behind, spent, e := eval.Run(m, "on", nil, content(t, "t: 1|7"), api.MaxFuel); toldEnd(o) != "fuel" || spent != api.MaxFuel || e != api.OK || told(behind) != "t: 1|7" {
		t.Error(toldEnd(o), spent, e)
	}
}

func TestTerms(t *testing.T) { // P16.2: what terms come to, and what they spend
	for _, x := range []struct {
		term, want string
		steps      int
	}{
		{"a", "2", 1}, {"5", "5", 1}, {"-a", "-2", 2}, {"a + b", "9", 3}, {"a - b * a", "-12", 5}, {"b % a", "1", 3}, {"b / a", "3", 3}, {"re(z) * im(z)", "-12", 5}, {"len(s + s)", "4", 4}, {"re(point(a, b) * z)", "34", 6},
		{"re(-z)", "-3", 3}, {"im(z - point(1, 1))", "-5", 6}, {`len("")`, "0", 2},
		{"b / 0", "divide", 3}, {"b % (a - a)", "divide", 5}, {"9223372036854775807 + a", "over", 3}, {"re(point(67108864, 0) + z)", "over", 6}, {"1 / 0 + (9223372036854775807 + 1)", "divide", 4}, {"(9223372036854775807 + 1) + 1 / 0", "over", 4},
		{"inc(a)", "3", 6}, {"inc(inc(a))", "4", 11}, {"both(a, b)", "2", 9}, {"both(b, inc(a))", "3", 14}, {"stop(a)", "raised 2", 4}, {"stop(0)", "raised 0", 4}, {"stop(-1)", "over", 5}, {"nought()", "end", 1}, {"nought() + stop(1)", "end", 2}, {"stop(1) + nought()", "raised 1", 5}, {"both(1 / 0, stop(5))", "divide", 4}, {"both(stop(5), 1 / 0)", "raised 5", 5},
	} {
		wantBody(t, "return "+x.term+";", five, "", x.want, "", 1+x.steps)
	}
}

func TestConditions(t *testing.T) { // the second one of && and || is not always reckoned
	for _, x := range []struct {
		term  string
		want  string
		steps int
	}{
		{"o", "1", 1}, {"!o", "0", 2}, {"true", "1", 1}, {"a < b", "1", 3}, {"b < a", "0", 3}, {"a <= a", "1", 3}, {"a == b", "0", 3}, {"a != b", "1", 3}, {`s < "b"`, "1", 3}, {`s <= "aa"`, "0", 3}, {"z == point(3, -4)", "1", 6}, {"o != false", "1", 3}, {`s == "ab"`, "1", 3},
		{"o && o", "1", 3}, {"o && !o", "0", 4}, {"!o && o", "0", 3}, {"!o && a / 0 == 1", "0", 3}, {"o && a / 0 == 1", "divide", 6}, {"a / 0 == 1 && !o", "divide", 5},
		{"o || o", "1", 2}, {"!o || o", "1", 4}, {"!o || !o", "0", 5}, {"o || a / 0 == 1", "1", 2}, {"!o || a / 0 == 1", "divide", 7}, {"yes(o) && yes(!o)", "0", 10}, {"o && o || a / 0 == 1", "1", 4}, {"!o && o || yes(true)", "1", 8},
	} {
		steps := 1 + x.steps + 2
		if x.want != "0" && x.want != "1" { // it fails, and nothing is returned
			steps -= 2
		}
		wantBody(t, "if "+x.term+" { return 1; } return 0;", five, "", x.want, "", steps)
	}
}

func TestStatements(t *testing.T) { // P16.2
	const rows = `t: 1|5, 2|6, 4|8; wide: 2 "ab" true|(1,2) "xyz"`
	for _, x := range []struct {
		body, want, behind string
		steps              int
	}{
		{"", "end", rows, 0}, {"let x = a;", "end", rows, 2}, {"if o { }", "end", rows, 2}, {"if o { let x = 1; }", "end", rows, 4},
		{"let x = a; x = x + 1; return x;", "3", rows, 8}, {"a = b; b = 1; return a;", "7", rows, 6}, {"let x = 5; let y = inc(1); return x;", "5", rows, 11},
		{"if o { let x = 1; } else { let x = true; } let x = s; return len(x);", "2", rows, 9}, {"if !o { return 1; } else { return 3; }", "3", rows, 5},
		{"while a < 4 { a = a + 1; } return a;", "4", rows, 20}, {"while false { } return 1;", "1", rows, 4}, {"while o { return 1; }", "1", rows, 4}, {"while o { let x = a; o = x < a; } return 1;", "1", rows, 11}, {"while o { }", "fuel", rows, 1000}, {"while o { raise a; }", "raised 2", rows, 4},
		{"return 1; return 2;", "1", rows, 2}, {"return a; raise b;", "2", rows, 2},
		{"raise a;", "raised 2", rows, 2}, {"raise 0;", "raised 0", rows, 2}, {"raise -1;", "over", rows, 3}, {"raise 9223372036854775807;", "raised 9223372036854775807", rows, 2}, {"raise 0 - 9223372036854775807 - 1;", "over", rows, 6}, {"raise -5;", "over", rows, 3}, {"put t(9) = (9); raise 3;", "raised 3", rows, 5},
		{"get v = t(a); return v;", "6", rows, 4}, {"get v = t(b); return v;", "missing", rows, 2}, {"get d, e = wide(a, s, o); return len(e);", "3", rows, 7}, {"get d, e = wide(a, s, !o); return 1;", "missing", rows, 5}, {"get d, e = wide(1 / 0, s, 2 / 0 == 1); return 1;", "divide", rows, 4},
		{"has h = t(a); if h { return 1; } return 0;", "1", rows, 6}, {"has h = t(b); if h { return 1; } return 0;", "0", rows, 6}, {"has h = t(3); if h { return 1; } return 0;", "0", rows, 6}, {"get = none(o, s); return 1;", "missing", rows, 3},
		{"put t(a) = (b); return 1;", "1", strings.Replace(rows, "2|6", "2|7", 1), 5}, {"put t(3) = (7); return 1;", "1", strings.Replace(rows, "2|6", "2|6, 3|7", 1), 5}, {"put t(b) = (a); return 1;", "1", strings.Replace(rows, "4|8", "4|8, 7|2", 1), 5}, {"put t(-1) = (a); return 1;", "1", strings.Replace(rows, "1|5", "-1|2, 1|5", 1), 6},
		{"put none(o, s) = (); get = none(o, s); return 1;", "1", rows + `; none: true "ab"|`, 8},
		{"add t(a) = (b); return 1;", "there", rows, 3}, {"add t(3) = (b); return 1;", "1", strings.Replace(rows, "2|6", "2|6, 3|7", 1), 5}, {"add t(2 / 0) = (1 % 0 + nought()); return 1;", "divide", rows, 4}, {"add t(a) = (nought()); return 1;", "end", rows, 3},
		{"change t(a) = (b); return 1;", "1", strings.Replace(rows, "2|6", "2|7", 1), 5}, {"change t(3) = (b); return 1;", "missing", rows, 3},
		{`change wide(a, s, o) = (z, ""); return 1;`, "1", strings.Replace(rows, `(1,2) "xyz"`, `(3,-4) ""`, 1), 8}, {"change wide(a, s, o) = (z, s + s); get d, e = wide(a, s, o); return len(e) + re(d);", "7", strings.Replace(rows, `(1,2) "xyz"`, `(3,-4) "abab"`, 1), 18},
		{"del t(a); return 1;", "1", strings.Replace(rows, "2|6, ", "", 1), 4}, {"del t(3); return 1;", "missing", rows, 2}, {"del t(a); del t(a);", "missing", rows, 4}, {"del t(a); add t(a) = (1); return 1;", "1", strings.Replace(rows, "2|6", "2|1", 1), 7}, {"add t(3) = (1); del t(3); return 1;", "1", rows, 7},
		{"del t(1); del t(2); del t(4); put t(3) = (1); return 1;", "1", "t: 3|1; " + rows[len("t: 1|5, 2|6, 4|8; "):], 11},
	} {
		wantBody(t, x.body, five, rows, x.want, x.behind, x.steps)
		if t.Failed() {
			t.Fatal(x.body)
		}
	}
}
