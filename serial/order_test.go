package serial_test

import (
	"math"
	"slices"
	"testing"

	"keystone/api"
	"keystone/serial"
)

func TestOrdersOfTheExamples(t *testing.T) { // P11.2
	wantNoOrder(t, skew())
	wantOrder(t, history([]int{1, 2}, writes(1, "x"), reads(2, "x", 1), writes(2, "x")), 1, 2)
}

func TestSerial(t *testing.T) { // P11.2
	h := history([]int{4, 2, 7}, reads(4, "x", 0), writes(7, "x"))
	wantSerial(t, h, []int{4, 7, 2}, true)
	wantSerial(t, h, []int{4, 2, 7}, true)
	wantSerial(t, h, []int{2, 4, 7}, true)
	wantSerial(t, h, []int{7, 4, 2}, false)
	wantSerial(t, h, []int{7, 2, 4}, false)
	wantSerial(t, h, []int{2, 7, 4}, false)
	for _, order := range permutations([]int{1, 2}) {
		wantSerial(t, skew(), order, false)
		wantSerial(t, history([]int{1, 2}), order, true)
	}
	wantSerial(t, history(nil), nil, true)
	wantSerial(t, history([]int{5}, writes(5, "x"), reads(5, "x", 5)), []int{5}, true)
}

func TestEachKindOfDependencyBinds(t *testing.T) { // P11.2
	for _, h := range []api.History{
		history([]int{2, 1}, writes(2, "x"), reads(1, "x", 2)),
		history([]int{2, 1}, writes(2, "x"), writes(1, "x")),
		history([]int{2, 1}, reads(2, "x", 0), writes(1, "x")),
	} {
		wantSerial(t, h, []int{2, 1}, true)
		wantSerial(t, h, []int{1, 2}, false)
		wantOrder(t, h, 2, 1)
		wantOrders(t, h, []int{2, 1})
	}
}

func TestWhatIsNoOrder(t *testing.T) { // P11.2
	h := history([]int{4, 2}, reads(4, "x", 0), writes(2, "x"))
	for _, order := range [][]int{nil, {4}, {2}, {4, 2, 2}, {4, 4}, {2, 2}, {4, 2, 0}, {0, 4, 2}, {4, 3}, {4, -2}, {1, 2}, {4, math.MaxInt}, {4, 2, 4, 2}} {
		wantNotAnOrder(t, h, order...)
	}
	wantNotAnOrder(t, history(nil), 0)
	wantNotAnOrder(t, history(nil), 1)
	wantNotAnOrder(t, skew(), 1)
	wantNotAnOrder(t, history([]int{1}))
}

func TestFirstOrders(t *testing.T) { // P11.2
	wantOrder(t, history(nil))
	wantOrder(t, history([]int{9, 10, 1}), 1, 9, 10) // by number, however they have committed
	wantOrder(t, history([]int{3, 2, 1}, writes(3, "x"), writes(1, "x")), 2, 3, 1)
	wantOrder(t, history([]int{1, 2, 3, 4}, reads(3, "x", 0), writes(1, "x"), reads(4, "y", 0), writes(2, "y")), 3, 1, 4, 2)
	wantNoOrder(t, history([]int{1, 2, 3}, reads(1, "x", 0), writes(2, "x"), reads(2, "y", 0), writes(1, "y"))) // though 3 is free
}

func TestOrders(t *testing.T) { // P11.2
	wantOrders(t, history(nil), nil)
	wantOrders(t, history([]int{8}), []int{8})
	wantOrders(t, history([]int{2, 3, 1}), permutations([]int{1, 2, 3})...)
	wantOrders(t, history([]int{1, 2, 3}, writes(3, "x"), reads(1, "x", 3)), []int{2, 3, 1}, []int{3, 1, 2}, []int{3, 2, 1})
	wantOrders(t, history([]int{2, 1, 3, 4}, writes(2, "x"), writes(1, "x"), writes(3, "x")),
		[]int{2, 1, 3, 4}, []int{2, 1, 4, 3}, []int{2, 4, 1, 3}, []int{4, 2, 1, 3})
}

func TestOrdersAsFarAsTheyAreAskedFor(t *testing.T) { // P11.2: there are more than could be gone through
	h := history(upTo(api.MaxActs))
	last := len(h.Commits) - 1
	var l [][]int
	for order := range serial.Orders(h) {
		l = append(l, order)
		if len(l) == 7 {
			break
		}
	}
	tails := permutations([]int{last - 2, last - 1, last, last + 1}) // of four, so that the seventh differs far ahead of the end
	for i, order := range l {
		if !slices.Equal(order[:last-3], h.Commits[:last-3]) || !slices.Equal(order[last-3:], tails[i]) {
			t.Errorf("order %d ends in %v, not %v", i, order[last-3:], tails[i])
		}
	}
}

func TestOrdersOfOneThatWaitsForNone(t *testing.T) { // P11.2: beside many that stand one behind the other
	const many = 130
	for free := 1; free <= many; free++ {
		h := history(upTo(many))
		chain := slices.Concat(h.Commits[:free-1], h.Commits[free:])
		for _, txn := range chain {
			h.Acts = append(h.Acts, writes(txn, "x"))
		}
		var want [][]int
		for i := range many {
			want = append(want, slices.Insert(slices.Clone(chain), i, free))
		}
		slices.SortFunc(want, slices.Compare)
		wantOrders(t, h, want...)
		wantOrder(t, h, want[0]...)
	}
}

func TestOrdersMayBeLeftAtAnyTime(t *testing.T) { // R3
	h := history([]int{1, 2, 3, 4}, writes(3, "x"), writes(1, "x"))
	all := slices.Collect(serial.Orders(h))
	orders := serial.Orders(h)
	for many := range len(all) + 1 {
		var l [][]int
		for order := range orders {
			if len(l) == many {
				break
			}
			l = append(l, order)
		}
		if !slices.EqualFunc(l, all[:many], slices.Equal) {
			t.Errorf("the first %d: %v, not %v", many, l, all[:many])
		}
	}
}

func TestOrdersMayBeNested(t *testing.T) { // R3
	h := history([]int{1, 2, 3}, writes(2, "x"), reads(1, "x", 2))
	want := slices.Collect(serial.Orders(h))
	orders := serial.Orders(h)
	i := 0
	for outer := range orders {
		j := 0
		for inner := range orders {
			if !slices.Equal(inner, want[j]) {
				t.Fatalf("the inner order %d: %v, not %v", j, inner, want[j])
			}
			j++
		}
		if j != len(want) || !slices.Equal(outer, want[i]) {
			t.Fatalf("the outer order %d: %v, not %v; %d inner ones", i, outer, want[i], j)
		}
		i++
	}
	if i != len(want) {
		t.Fatalf("%d outer orders, not %d", i, len(want))
	}
}
