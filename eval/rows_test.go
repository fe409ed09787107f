package eval_test

import (
	"slices"
	"strings"
	"testing"

	"keystone/api"
	"keystone/eval"
	"keystone/tuple"
)

// modelRows is what Rows answers.
func modelRows(c []api.Content, table string, from, to []api.Value) []api.Row {
	var l []api.Row
	for _, x := range c {
		if x.Table != table {
			continue
		}
		for _, row := range x.Rows {
			if len(row.Key) < len(from) || len(row.Key) < len(to) {
				continue
			}
			low, lowE := tuple.Compare(row.Key[:len(from)], from)
			high, highE := tuple.Compare(to, row.Key[:len(to)])
			if lowE == api.OK && highE == api.OK && low != -1 && high != -1 {
				l = append(l, row)
			}
		}
		break
	}
	return l
}

func TestRowsByHand(t *testing.T) { // P16.4
	c := content(t, `t: 1 "a"|1, 1 "b"|2, 2 "a"|3, 3 "c"|4; u: 5|1; t: 9 "z"|9; v:`)
	odd := content(t, `t: 5|1, 3 1|2, "a"|3, true 7 7|4, 3 (1,2)|5, (1,2)|6, |7, 4 true|, 1 "b" 9|8 8 8`)
	for _, x := range []struct {
		c               []api.Content
		table, from, to string
		want            string
	}{
		{c, "t", "", "", "1 2 3 4"}, {c, "t", "1", "1", "1 2"}, {c, "t", "2", "", "3 4"}, {c, "t", "", "2", "1 2 3"}, {c, "t", `1 "b"`, `2 "a"`, "2 3"}, {c, "t", `1 "b"`, "1", "2"}, {c, "t", "3", "1", ""}, {c, "t", `2 "a" 1`, "", ""}, {c, "t", "", "1 1 1", ""}, {c, "t", "true", "", ""}, {c, "t", "", "true", "1 2 3 4"}, {c, "t", `""`, "", ""}, {c, "t", "(1,2)", "", ""}, {c, "t", "", "(1,2)", ""}, {c, "t", `1 (1,2)`, "", ""}, {c, "t", "9", "9", ""},
		{c, "u", "", "", "1"}, {c, "u", "5", "5", "1"}, {c, "u", "6", "", ""}, {c, "v", "", "", ""}, {c, "w", "", "", ""}, {c, "", "", "", ""}, {nil, "t", "", "", ""},
		{odd, "t", "", "", "1|2|3|4|5|6|7||8 8 8"}, {odd, "t", "3", "", "1|2|3|4|5|"}, {odd, "t", "3", "5", "1|2|5|"}, {odd, "t", "true", "", "3|4"}, {odd, "t", "3 1", "", "2|4|"}, {odd, "t", "0 0", "9 9", "2||8 8 8"}, {odd, "t", "0 0 0", "", "4|8 8 8"}, {odd, "t", "", "2 0", "8 8 8"},
	} {
		var got []string
		l := eval.Rows(x.c, x.table, vals(t, x.from), vals(t, x.to))
		for _, row := range l {
			got = append(got, toldValues(row.Val))
		}
		want := strings.Split(x.want, "|")
		if !strings.Contains(x.want, "|") {
			want = strings.Fields(x.want)
		}
		if x.want == "8 8 8" {
			want = []string{x.want}
		}
		if !slices.Equal(got, want) {
			t.Errorf("%s of %s from %s to %s: %q", x.table, told(x.c), x.from, x.to, got)
		}
		if said(l) != said(modelRows(x.c, x.table, vals(t, x.from), vals(t, x.to))) {
			t.Errorf("%s of %s from %s to %s: %s", x.table, told(x.c), x.from, x.to, said(l))
		}
	}
}

func TestRowsOfAnything(t *testing.T) { // P16.4: whatever the rows and the beginnings are
	n := numbers(167)
	var bad []api.Value
	for _, e := range []api.Errno{api.ErrKind, api.ErrLong, api.ErrTuplePart} {
		bad = append(bad, badOperands()[e]...)
	}
	some := func(most int) []api.Value {
		var l []api.Value
		for range n.below(most) {
			l = append(l, someValue(&n, kinds[n.below(3)]))
			if n.below(30) == 0 {
				l[len(l)-1] = oneOf(&n, bad)
			}
			if n.below(30) == 0 {
				l[len(l)-1] = tuple.Point(1, 2)
			}
		}
		return l
	}
	told := 0
	for range 4000 {
		var c []api.Content
		for range n.below(4) {
			x := api.Content{Table: oneOf(&n, []string{"t", "u", ""})}
			for range n.below(12) {
				x.Rows = append(x.Rows, api.Row{Key: some(4), Val: some(4)})
			}
			c = append(c, x)
		}
		table := oneOf(&n, []string{"t", "u", ""})
		from, to := some(3), some(3)
		if n.below(3) == 0 && len(c) > 0 && len(c[0].Rows) > 0 {
			from = oneOf(&n, c[0].Rows).Key
			from = from[:n.below(len(from)+1)]
		}
		l := eval.Rows(c, table, from, to)
		if said(l) != said(modelRows(c, table, from, to)) {
			t.Fatalf("%s of %s from %s to %s: %s", table, said(c), said(from), said(to), said(l))
		}
		told += len(l)
	}
	if told < 2000 {
		t.Error(told)
	}
}

func TestRowsOfLongKeys(t *testing.T) { // P16.4: keys of up to 16 values, and of more, which are none
	ones := func(many int) []api.Value {
		return slices.Repeat([]api.Value{tuple.Int(1)}, many)
	}
	for _, many := range []int{0, 1, 15, 16, 17, 18, 1 << 16} {
		c := []api.Content{{Table: "t", Rows: []api.Row{{Key: ones(many)}}}}
		for _, low := range []int{0, 1, 15, 16, 17, 18, 1 << 16} {
			for _, high := range []int{0, 1, 16, 17, 1 << 16} {
				want := low <= min(16, many) && high <= min(16, many)
				if l := eval.Rows(c, "t", ones(low), ones(high)); (len(l) == 1) != want {
					t.Fatal(many, low, high, len(l))
				}
			}
		}
	}
}
