package serial_test

import (
	"math"
	"slices"
	"strconv"
	"testing"

	"keystone/api"
	"keystone/serial"
)

func TestNothingPanics(t *testing.T) { // R1
	many := []int{math.MinInt, -1, 0, 1, 2, 63, 64, 65, math.MaxInt}
	lists := [][]int{nil, {}, {0}, {-1, 1}, {1}, {1, 1}, {2, 1}, {math.MaxInt, 64, 63, 2, 1}, many, upTo(64), upTo(65), upTo(api.MaxActs + 1)}
	for _, commits := range lists {
		for _, txn := range many {
			for _, ver := range many {
				for _, write := range []bool{false, true} {
					a := api.Act{Txn: txn, Write: write, Item: "x", Ver: ver}
					h := history(commits, a, writes(1, "x"), writes(2, "x"), reads(2, "y", 0), writes(txn, "y"))
					for _, order := range lists[:8] {
						serial.Serial(h, order)
					}
					serial.Order(h)
					serial.Round(h)
					serial.Pivots(h)
					for range serial.Orders(h) {
						break
					}
					if right := modelRight(h); right != (serial.Check(h) == api.OK) {
						t.Fatalf("Check(%v): not %v", h, right)
					}
				}
			}
		}
	}
}

// spare are the same lists, with room behind their ends in which something lies.
func spare(h api.History) api.History {
	commits := append(make([]int, 0, len(h.Commits)+3), h.Commits...)
	copy(commits[len(commits):cap(commits)], []int{77, 78, 79})
	acts := append(make([]api.Act, 0, len(h.Acts)+2), h.Acts...)
	copy(acts[len(acts):cap(acts)], []api.Act{writes(77, "spare"), reads(78, "spare", 79)})
	return api.History{Commits: commits, Acts: acts}
}

// sameAll tells whether two histories are the same, with the room behind their lists' ends.
func sameAll(a, b api.History) bool {
	return slices.Equal(a.Commits[:cap(a.Commits)], b.Commits[:cap(b.Commits)]) && slices.Equal(a.Acts[:cap(a.Acts)], b.Acts[:cap(b.Acts)])
}

func TestWhatIsHandedInIsNotChanged(t *testing.T) { // R3
	n := numbers(31)
	for range 500 {
		h := spare(anyHistory(&n, n.below(6), 3, 8))
		was := spare(h)
		order := slices.Grow(shuffled(&n, h.Commits), 2)
		copy(order[len(order):cap(order)], []int{7, 8})
		orderWas := append([]int(nil), order[:cap(order)]...)
		serial.Check(h)
		serial.Graph(h)
		serial.Order(h)
		for range serial.Orders(h) {
			if !sameAll(h, was) {
				t.Fatalf("%v became %v", was, h)
			}
		}
		serial.Round(h)
		serial.Serial(h, order)
		serial.Pivots(h)
		if !sameAll(h, was) || !slices.Equal(order[:cap(order)], orderWas) {
			t.Fatalf("%v became %v, %v became %v", was, h, orderWas, order)
		}
	}
}

// spoil writes over a list, and over the room behind its end.
func spoil[T any](l []T, by T) {
	l = l[:cap(l)]
	for i := range l {
		l[i] = by
	}
}

func TestAnswersAreNewMemory(t *testing.T) { // R3
	n := numbers(32)
	for range 500 {
		h := spare(anyHistory(&n, n.below(6), 3, 8))
		was := spare(h)
		graph, _ := serial.Graph(h)
		spoil(graph, api.Dep{From: -7, To: -7, Kind: -7})
		order, _, _ := serial.Order(h)
		spoil(order, -7)
		round, _ := serial.Round(h)
		spoil(round, -7)
		pivots, _ := serial.Pivots(h)
		spoil(pivots, -7)
		want := slices.Collect(serial.Orders(h))
		orders := serial.Orders(h)
		for range 2 {
			i := 0
			for l := range orders {
				if !slices.Equal(l, want[i]) {
					t.Fatalf("Orders(%v): %v, not %v", h, l, want[i])
				}
				spoil(l, -7)
				i++
			}
		}
		if !sameAll(h, was) {
			t.Fatalf("%v became %v", was, h)
		}
		wantModel(t, h)
	}
}

func TestNoTwoOrdersShareMemory(t *testing.T) { // R3
	l := slices.Collect(serial.Orders(history(upTo(4))))
	for i := range l {
		spoil(l[i], -1-i)
	}
	for i := range l {
		for _, x := range l[i][:cap(l[i])] {
			if x != -1-i {
				t.Fatalf("order %d: %v", i, l[i])
			}
		}
	}
}

func TestOrdersAreAsTheyWereWhenTheyWereAskedFor(t *testing.T) { // R3
	n := numbers(33)
	for range 500 {
		h := anyHistory(&n, 1+n.below(5), 3, 8)
		want := slices.Collect(serial.Orders(h))
		orders := serial.Orders(h)
		spoil(h.Commits, 1)
		spoil(h.Acts, reads(-1, "y", -1))
		if l := slices.Collect(orders); !slices.EqualFunc(l, want, slices.Equal) {
			t.Fatalf("%v, not %v", l, want)
		}
	}
}

func TestWrongOnesStayWrong(t *testing.T) { // R3: what Orders goes through does not hang on what becomes of the history
	h := history([]int{1, 1})
	orders := serial.Orders(h)
	h.Commits[1] = 2
	for l := range orders {
		t.Fatal(l)
	}
	wantOrders(t, h, []int{1, 2}, []int{2, 1})
}

func TestSameHistorySameAnswers(t *testing.T) { // R4: not by the order in which a map is gone through
	for seed := range 20 {
		for range 20 {
			n := numbers(seed)
			wantModel(t, anyHistory(&n, 5, 4, 10))
		}
	}
}

func TestNilAndEmptyListsAreTheSame(t *testing.T) { // R3
	for _, commits := range [][]int{nil, {}} {
		for _, acts := range [][]api.Act{nil, {}} {
			h := history(commits, acts...)
			wantModel(t, h)
			wantSerial(t, h, nil, true)
			wantSerial(t, h, []int{}, true)
		}
	}
}

// ring is a history of the greatest size that is one round: each one writes the version behind the one of the transaction ahead of it, and the last one has read what was there at first.
func ring() api.History {
	h := history(upTo(api.MaxActs - 1))
	for _, txn := range h.Commits {
		h.Acts = append(h.Acts, writes(txn, "x"))
	}
	h.Acts = append(h.Acts, reads(len(h.Commits), "x", 0))
	return h
}

func TestGreatHistories(t *testing.T) { // R1
	h := ring()
	wantNoOrder(t, h)
	wantRound(t, h, h.Commits...)
	wantPivots(t, h)
	slices.Reverse(h.Commits)
	h.Acts[len(h.Acts)-1].Txn = 1
	wantRound(t, h, append([]int{1}, h.Commits[:len(h.Commits)-1]...)...)

	h.Acts = h.Acts[:len(h.Acts)-1] // now each one waits for the greater ones
	wantOrder(t, h, h.Commits...)
	wantOrders(t, h, h.Commits)
	wantRound(t, h)
	wantSerial(t, h, h.Commits, true)
	wantSerial(t, h, upTo(len(h.Commits)), false)
	h.Commits = append(h.Commits, api.MaxActs) // one that waits for none
	many := 0
	for l := range serial.Orders(h) {
		if l[len(l)-1-many] != api.MaxActs {
			t.Fatalf("the order %d has it elsewhere", many)
		}
		many++
	}
	if many != api.MaxActs {
		t.Fatalf("%d orders", many)
	}
}

func TestManyRoundsSideBySide(t *testing.T) { // R1: as many dependencies as there may be, and all of them in rounds
	h := history(upTo(1366))
	n := numbers(61)
	for i := 0; len(h.Acts)+3 <= api.MaxActs; i++ {
		a, b, c := oneOf(&n, h.Commits), oneOf(&n, h.Commits), oneOf(&n, h.Commits)
		if a != b && b != c && a != c {
			item := strconv.Itoa(i)
			h.Acts = append(h.Acts, writes(a, item), reads(b, item, a), writes(c, item))
		}
	}
	l, e := serial.Round(h)
	deps, _ := serial.Graph(h)
	if e != api.OK || len(l) < 2 {
		t.Fatalf("Round: %v, %v", l, e)
	}
	for i := range l {
		if !leads(deps, l[i], l[(i+1)%len(l)]) {
			t.Fatalf("%v does not lead from %d on", l, l[i])
		}
	}
	wantNoOrder(t, h)
}
