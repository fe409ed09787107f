package eval_test

import (
	"fmt"
	"strings"
	"testing"

	"keystone/api"
	"keystone/eval"
	"keystone/tuple"
)

func TestRounds(t *testing.T) { // P16.2: what a for comes to, what it spends, and which rows it sees
	const rows = "t: 1|5, 2|6, 4|8"
	const add = "{ n = n + v; }"
	for _, x := range []struct {
		body, want, behind string
		steps              int
	}{
		{"for k, v in t() to () " + add, "19", rows, 21}, {"for k, v in t(2) to (4) " + add, "14", rows, 18}, {"for k, v in t(2) to () " + add, "14", rows, 17}, {"for k, v in t() to (2) " + add, "11", rows, 17}, {"for k, v in t(0) to (9) " + add, "19", rows, 23},
		{"for k, v in t(3) to (3) " + add, "0", rows, 8}, {"for k, v in t(4) to (1) " + add, "0", rows, 8}, {"for k, v in t(5) to () " + add, "0", rows, 7}, {"for k, v in t() to (0) " + add, "0", rows, 7}, {"for k, v in t(2) to (2) { n = v; }", "6", rows, 11}, {"for k, v in t(3) to (a + 1) " + add, "0", rows, 10},
		{"for k, v in t() to () { return v; }", "5", rows, 6}, {"for k, v in t() to () { raise k; }", "raised 1", rows, 6}, {"for k, v in t() to () { del t(k); if k == 4 { raise 9; } }", "raised 9", rows, 26},
		{"for k, v in t() to () { del t(k); n = n + v; }", "19", "", 27}, {"for k, v in t(2) to () { del t(k); }", "0", "t: 1|5", 13},
		{"for k, v in t() to (6) { if k < 6 { put t(k + 1) = (v); } }", "0", "t: 1|5, 2|5, 3|5, 4|5, 5|5, 6|5", 62}, {"for k, v in t() to () { put t(k - 10) = (v); n = n + 1; }", "3", "t: -9|5, -8|6, -6|8, 1|5, 2|6, 4|8", 36},
		{"for k, v in t() to () { n = n + v; put t(4) = (100); }", "111", "t: 1|5, 2|6, 4|100", 30}, {"for k, v in t() to () { n = n + v; if k == 1 { del t(2); } }", "13", "t: 1|5, 4|8", 26}, {"for k, v in t() to () { del t(k); put t(k) = (n); n = n + 1; }", "3", "t: 1|0, 2|1, 4|2", 36},
		{"for k, v in t() to () { for i, j in t(k) to () { n = n + 1; } }", "6", rows, 48}, {"for k, v in t() to () { k = 100; v = 200; n = n + 1; }", "3", rows, 33}, {"let m = 1; for k, v in t(m) to (m) { m = m + 5; n = n + v; }", "5", rows, 19},
		{"for k, v in t(1 / 0) to (nought()) { }", "divide", rows, 6}, {"for k, v in t(a) to (1 / 0) { }", "divide", rows, 7}, {"for k, v in t(nought()) to (1 / 0) { }", "end", rows, 4}, {"for k, v in t() to () { put t(k + 1) = (v); }", "fuel", rows, 1000}, {"for k, v in t() to () { get w = t(k + 1); n = w; }", "missing", rows, 15},
		{"for x, y in none() to () { n = n + 1; }", "0", rows, 6},
	} {
		wantBody(t, "let n = 0; "+x.body+" return n;", five, rows, x.want, x.behind, x.steps)
		if t.Failed() {
			t.Fatal(x.body)
		}
	}
}

func TestBeginningsOfKeys(t *testing.T) { // rows of keys of three columns, held against beginnings of all lengths
	const rows = `wide: 1 "" true|(0,0) "a", 1 "a" false|(0,0) "b", 1 "a" true|(0,0) "c", 1 "a\x00" false|(0,0) "d", 1 "b" false|(0,0) "e", 2 "" false|(0,0) "f", 2 "ab" true|(0,0) "g", 3 "" false|(0,0) "h"`
	for _, x := range []struct{ from, to, want string }{
		{"", "", "abcdefgh"}, {"1", "1", "abcde"}, {"1", "2", "abcdefg"}, {"2", "2", "fg"}, {"2", "", "fgh"}, {"", "1", "abcde"}, {"0", "0", ""}, {"2", "1", ""},
		{`1, "a"`, `1, "a"`, "bc"}, {`1, "a"`, "1", "bcde"}, {"1", `1, "a"`, "abc"}, {`1, "a"`, "", "bcdefgh"}, {`1, "a"`, `2, ""`, "bcdef"}, {`1, "b"`, `1, "a"`, ""}, {`1, "aa"`, "1", "e"}, {`1, "a\x00"`, `1, "a\x01"`, "d"},
		{`1, "a", true`, `1, "a", true`, "c"}, {`1, "a", true`, `1, "a", false`, ""}, {`1, "a", true`, `1, "a"`, "c"}, {`1, "a", true`, "1", "cde"}, {`1, "a"`, `1, "a", false`, "b"}, {"", `1, "a", false`, "ab"}, {`2, "ab", false`, "", "gh"}, {`2, "ab", true`, `2, "ab", true`, "g"}, {`3, "", true`, "", ""},
	} {
		for _, back := range []string{"n = n + e;", "del wide(a, b, c); n = n + e;", `put wide(0 - a, b, c) = (d, e); put wide(a, b, c) = (d, "x"); n = n + e;`, `let h = len(n); if h < 9 { put wide(a, b + "y", c) = (d, ""); } n = n + e;`} {
			text := fmt.Sprintf(`%sproc p() bytes { let n = ""; for a, b, c, d, e in wide(%s) to (%s) { %s } return n; }`, world, x.from, x.to, back)
			m := read(t, text)
			o, _, _ := wantModel(t, m, text, "p", nil, content(t, rows), 400)
			if o.Value.Bytes != x.want && !strings.Contains(back, "put") {
				t.Errorf("%s to %s: %q, not %q", x.from, x.to, o.Value.Bytes, x.want)
			}
		}
		got := ""
		for _, row := range eval.Rows(content(t, rows), "wide", vals(t, strings.ReplaceAll(x.from, ",", " ")), vals(t, strings.ReplaceAll(x.to, ",", " "))) {
			got += row.Val[1].Bytes
		}
		if got != x.want {
			t.Errorf("Rows %s to %s: %q, not %q", x.from, x.to, got, x.want)
		}
	}
}

// mixing is a module whose procedures put, take away and go over many rows, as their arguments say.
const mixing = `table t(k int, s bytes; v int);
proc mix(x int, keys int, puts int, many int) int {
	let i = 0;
	let n = 0;
	while i < many {
		i = i + 1;
		x = (x * 1103515245 + 12345) % 2147483648;
		let k = x / 65536 % keys;
		has is = t(k, "a");
		if x / 16 % 100 < puts {
			put t(k, "a") = (i);
		} else {
			if is {
				del t(k, "a");
				n = n + 1;
			}
		}
	}
	return n;
}
proc over(low int, high int, step int, odd int) int {
	let n = 0;
	for k, s, v in t(low) to (high) {
		n = n + 1;
		if k % odd == 0 {
			del t(k, s);
		} else {
			put t(k + step, s) = (v);
			has is = t(k - step * 2, s);
			if is {
				del t(k - step * 2, s);
			}
		}
	}
	return n;
}
proc down(n int) int {
	while true {
		n = n - 1;
		put t(n, "") = (n);
	}
}
proc up(n int) int {
	while n != 0 {
		n = n - 1;
		put t(0 - n, "") = (n);
	}
	let many = 0;
	for k, s, v in t() to () {
		del t(k, s);
		many = many + 1;
	}
	return many;
}
`

func TestManyRows(t *testing.T) { // P16.2: over tables that grow and shrink by more rows than stand together
	m := read(t, mixing)
	n := numbers(164)
	var c []api.Content
	most := 0
	for i := range 26 {
		keys := int64(oneOf(&n, []int{3, 100, 700, 1500}))
		puts := int64(oneOf(&n, []int{2, 50, 90, 100}))
		args := []api.Value{tuple.Int(int64(n.below(1 << 30))), tuple.Int(keys), tuple.Int(puts), tuple.Int(int64(n.below(900)))}
		_, c, _ = wantModel(t, m, "", "mix", args, c, api.MaxFuel)
		from := int64(n.below(int(keys)))
		args = []api.Value{tuple.Int(from), tuple.Int(from + int64(n.below(600))), tuple.Int(int64(1 + n.below(7))), tuple.Int(int64(1 + n.below(5)))}
		_, c, _ = wantModel(t, m, "", "over", args, c, 9000)
		most = max(most, len(c[0].Rows))
		if i == 17 {
			c = nil
		}
	}
	if most < 800 {
		t.Error(most)
	}
}

func TestWithAllFuel(t *testing.T) { // each next row ahead of all others, or behind them, as often as there is fuel for
	m := read(t, mixing)
	o, c, spent, e := eval.Run(m, "down", vals(t, "0"), nil, api.MaxFuel)
	if toldEnd(o) != "fuel" || told(c) != "t:" || spent != api.MaxFuel || e != api.OK {
		t.Fatal(toldEnd(o), spent, e)
	}
	const many = 49000
	if o, c, _, e := eval.Run(m, "up", []api.Value{tuple.Int(many)}, nil, api.MaxFuel); toldEnd(o) != "49000" || told(c) != "t:" || e != api.OK {
		t.Fatal(toldEnd(o), len(told(c)), e)
	}
	var l []api.Row
	for i := range many {
		l = append(l, api.Row{Key: []api.Value{tuple.Int(int64(i)), tuple.Bytes("")}, Val: []api.Value{tuple.Int(0)}})
	}
	c = []api.Content{{Table: "t", Rows: l}}
	o, behind, _, e := eval.Run(m, "over", vals(t, "10000 38999 1 1"), c, api.MaxFuel)
	if toldEnd(o) != "29000" || len(behind[0].Rows) != 20000 || behind[0].Rows[10000].Key[0].Int != 39000 || e != api.OK {
		t.Fatal(toldEnd(o), len(behind[0].Rows), e)
	}
}
