package serial_test

import (
	"slices"
	"testing"

	"keystone/api"
	"keystone/serial"
)

// numbers tells one number behind the other, always the same ones.
type numbers uint64

func (n *numbers) below(most int) int {
	*n = *n*6364136223846793005 + 1442695040888963407
	return int(uint64(*n)>>33) % most
}

// oneOf is one of some things.
func oneOf[T any](n *numbers, l []T) T {
	return l[n.below(len(l))]
}

// shuffled puts a list in any order.
func shuffled[T any](n *numbers, l []T) []T {
	l = slices.Clone(l)
	for i := range l {
		j := i + n.below(len(l)-i)
		l[i], l[j] = l[j], l[i]
	}
	return l
}

func reads(txn int, item string, ver int) api.Act {
	return api.Act{Txn: txn, Item: item, Ver: ver}
}

func writes(txn int, item string) api.Act {
	return api.Act{Txn: txn, Write: true, Item: item}
}

func history(commits []int, acts ...api.Act) api.History {
	return api.History{Commits: commits, Acts: acts}
}

// skew is one of the chapter's examples: two that read both items, and write one each.
func skew() api.History {
	return history([]int{1, 2}, reads(1, "x", 0), reads(1, "y", 0), reads(2, "x", 0), reads(2, "y", 0), writes(1, "x"), writes(2, "y"))
}

// upTo are the numbers from 1 on.
func upTo(most int) []int {
	l := make([]int, most)
	for i := range l {
		l[i] = i + 1
	}
	return l
}

func wr(from, to int) api.Dep { return api.Dep{From: from, To: to, Kind: api.DWr} }
func ww(from, to int) api.Dep { return api.Dep{From: from, To: to, Kind: api.DWw} }
func rw(from, to int) api.Dep { return api.Dep{From: from, To: to, Kind: api.DRw} }

func wantGraph(t *testing.T, h api.History, want ...api.Dep) {
	t.Helper()
	if l, e := serial.Graph(h); e != api.OK || !slices.Equal(l, want) {
		t.Fatalf("Graph(%v): %v, %v, not %v", h, l, e, want)
	}
}

func wantOrder(t *testing.T, h api.History, want ...int) {
	t.Helper()
	if l, is, e := serial.Order(h); e != api.OK || !is || !slices.Equal(l, want) {
		t.Fatalf("Order(%v): %v, %v, %v, not %v", h, l, is, e, want)
	}
}

func wantNoOrder(t *testing.T, h api.History) {
	t.Helper()
	if l, is, e := serial.Order(h); e != api.OK || is || len(l) > 0 {
		t.Fatalf("Order(%v): %v, %v, %v, not none", h, l, is, e)
	}
	wantOrders(t, h)
}

func wantOrders(t *testing.T, h api.History, want ...[]int) {
	t.Helper()
	if l := slices.Collect(serial.Orders(h)); !slices.EqualFunc(l, want, slices.Equal) {
		t.Fatalf("Orders(%v): %v, not %v", h, l, want)
	}
}

func wantSerial(t *testing.T, h api.History, order []int, want bool) {
	t.Helper()
	if is, e := serial.Serial(h, order); e != api.OK || is != want {
		t.Fatalf("Serial(%v, %v): %v, %v, not %v", h, order, is, e, want)
	}
}

func wantNotAnOrder(t *testing.T, h api.History, order ...int) {
	t.Helper()
	if is, e := serial.Serial(h, order); e != api.ErrArg || is {
		t.Fatalf("Serial(%v, %v): %v, %v, not ErrArg", h, order, is, e)
	}
}

// wantRound looks at the shortest round; none wanted: that there is none.
func wantRound(t *testing.T, h api.History, want ...int) {
	t.Helper()
	if l, e := serial.Round(h); e != api.OK || !slices.Equal(l, want) {
		t.Fatalf("Round(%v): %v, %v, not %v", h, l, e, want)
	}
}

func wantPivots(t *testing.T, h api.History, want ...int) {
	t.Helper()
	if l, e := serial.Pivots(h); e != api.OK || !slices.Equal(l, want) {
		t.Fatalf("Pivots(%v): %v, %v, not %v", h, l, e, want)
	}
}

// wantRight looks at what Check says alone.
func wantRight(t *testing.T, h api.History) {
	t.Helper()
	if e := serial.Check(h); e != api.OK {
		t.Fatalf("Check: %v of %d acts, %d commits: %.300v", e, len(h.Acts), len(h.Commits), h)
	}
}

// wantWrong looks at what all calls say of what is no history.
func wantWrong(t *testing.T, h api.History) {
	t.Helper()
	if e := serial.Check(h); e != api.ErrHistory {
		t.Fatalf("Check: %v of %d acts, %d commits: %.300v", e, len(h.Acts), len(h.Commits), h)
	}
	if l, e := serial.Graph(h); len(l) > 0 || e != api.ErrHistory {
		t.Fatalf("Graph: %v, %v", l, e)
	}
	if l, is, e := serial.Order(h); len(l) > 0 || is || e != api.ErrHistory {
		t.Fatalf("Order: %v, %v, %v", l, is, e)
	}
	for l := range serial.Orders(h) {
		t.Fatalf("Orders: %v", l)
	}
	if l, e := serial.Round(h); len(l) > 0 || e != api.ErrHistory {
		t.Fatalf("Round: %v, %v", l, e)
	}
	for _, order := range [][]int{nil, h.Commits, {0}, {1, 1}} { // what is wrong with the history is told first
		if is, e := serial.Serial(h, order); is || e != api.ErrHistory {
			t.Fatalf("Serial: %v, %v", is, e)
		}
	}
	if l, e := serial.Pivots(h); len(l) > 0 || e != api.ErrHistory {
		t.Fatalf("Pivots: %v, %v", l, e)
	}
}
