package serial_test

import (
	"strconv"
	"testing"

	"keystone/api"
)

// leading is a history in which dependencies DRw lead along the pairs, and no others are there: of each pair the first one reads an item that the second one writes.
func leading(commits []int, pairs ...[2]int) api.History {
	h := history(commits)
	for i, p := range pairs {
		item := strconv.Itoa(i)
		h.Acts = append(h.Acts, reads(p[0], item, 0), writes(p[1], item))
	}
	return h
}

func TestRoundsOfTheExamples(t *testing.T) { // P11.3
	wantRound(t, skew(), 1, 2)
	wantPivots(t, skew(), 1, 2)
	h := history([]int{1, 2}, writes(1, "x"), reads(2, "x", 1), writes(2, "x"))
	wantRound(t, h)
	wantPivots(t, h)
}

func TestRounds(t *testing.T) { // P11.3
	for _, x := range []struct {
		why  string
		h    api.History
		want []int
	}{
		{"nothing", history(nil), nil},
		{"no dependency", history([]int{2, 1}), nil},
		{"a way without a round", leading(upTo(3), [2]int{1, 2}, [2]int{2, 3}, [2]int{1, 3}), nil},
		{"three", leading(upTo(3), [2]int{1, 2}, [2]int{2, 3}, [2]int{3, 1}), []int{1, 2, 3}},
		{"three the other way round", leading(upTo(3), [2]int{1, 3}, [2]int{3, 2}, [2]int{2, 1}), []int{1, 3, 2}},
		{"by number, however they have committed", leading([]int{9, 4, 10}, [2]int{10, 9}, [2]int{9, 10}), []int{9, 10}},
		{"the shorter one, of greater numbers", leading(upTo(5), [2]int{1, 2}, [2]int{2, 3}, [2]int{3, 1}, [2]int{4, 5}, [2]int{5, 4}), []int{4, 5}},
		{"the shorter one, of some of the same", leading(upTo(4), [2]int{1, 2}, [2]int{2, 3}, [2]int{3, 4}, [2]int{4, 1}, [2]int{4, 2}), []int{2, 3, 4}},
		{"the first one of two", leading(upTo(4), [2]int{4, 3}, [2]int{3, 4}, [2]int{2, 1}, [2]int{1, 2}), []int{1, 2}},
		{"the first one from one on", leading(upTo(3), [2]int{1, 3}, [2]int{3, 1}, [2]int{1, 2}, [2]int{2, 1}), []int{1, 2}},
		{"the first one behind the second", leading(upTo(6), [2]int{1, 6}, [2]int{6, 5}, [2]int{6, 3}, [2]int{5, 4}, [2]int{3, 2}, [2]int{2, 1}, [2]int{4, 1}), []int{1, 6, 3, 2}},
		{"what leads out of a round is none of it", leading(upTo(4), [2]int{2, 1}, [2]int{2, 3}, [2]int{3, 4}, [2]int{4, 2}), []int{2, 3, 4}},
		{"what leads into a round is none of it", leading(upTo(4), [2]int{1, 2}, [2]int{2, 3}, [2]int{3, 4}, [2]int{4, 2}), []int{2, 3, 4}},
		{"two, of the kinds DWr and DRw", history([]int{1, 2}, reads(2, "x", 0), writes(1, "x"), writes(1, "y"), reads(2, "y", 1)), []int{1, 2}},
		{"two, of the kinds DWr and DWr", history([]int{1, 2}, writes(1, "x"), reads(2, "x", 1), writes(2, "y"), reads(1, "y", 2)), []int{1, 2}},
		{"two, of the kinds DWw and DRw (a lost update)", history([]int{1, 2}, reads(1, "x", 0), reads(2, "x", 0), writes(1, "x"), writes(2, "x")), []int{1, 2}},
		{"three, one of each kind", history([]int{3, 1, 2}, writes(3, "x"), reads(1, "x", 3), writes(1, "y"), writes(2, "y"), reads(2, "z", 0), writes(3, "z")), []int{1, 2, 3}},
	} {
		wantRound(t, x.h, x.want...)
		wantModel(t, x.h)
		if t.Failed() {
			t.Fatal(x.why)
		}
	}
}

func TestPivots(t *testing.T) { // P11.3
	for _, x := range []struct {
		why  string
		h    api.History
		want []int
	}{
		{"nothing", history(nil), nil},
		{"one in the middle, though there is an order", leading([]int{3, 1, 2}, [2]int{1, 2}, [2]int{2, 3}), []int{2}},
		{"those with one in alone, or one out alone, are none", leading(upTo(4), [2]int{1, 2}, [2]int{3, 4}), nil},
		{"rising, each once", leading(upTo(5), [2]int{5, 4}, [2]int{4, 3}, [2]int{3, 2}, [2]int{3, 1}, [2]int{5, 3}), []int{3, 4}},
		{"by number, however they have committed", leading([]int{10, 9, 2}, [2]int{10, 9}, [2]int{9, 2}, [2]int{2, 10}), []int{2, 9, 10}},
		{"DWr into it counts for nothing", history(upTo(3), writes(1, "x"), reads(2, "x", 1), reads(2, "y", 0), writes(3, "y")), nil},
		{"DWw into it counts for nothing", history(upTo(3), writes(1, "x"), writes(2, "x"), reads(2, "y", 0), writes(3, "y")), nil},
		{"DWr out of it counts for nothing", history(upTo(3), reads(1, "y", 0), writes(2, "y"), writes(2, "x"), reads(3, "x", 2)), nil},
		{"DWw out of it counts for nothing", history(upTo(3), reads(1, "y", 0), writes(2, "y"), writes(2, "x"), writes(3, "x")), nil},
		{"another kind beside it does no harm", history(upTo(3), writes(1, "x"), writes(2, "x"), reads(1, "y", 0), writes(2, "y"), reads(2, "z", 0), writes(3, "z"), writes(2, "v"), writes(3, "v")), []int{2}},
		{"DRw out of it ahead of one of another kind", history(upTo(3), reads(3, "x", 0), writes(2, "x"), reads(2, "y", 0), writes(1, "y"), writes(2, "z"), writes(3, "z")), []int{2}},
	} {
		wantPivots(t, x.h, x.want...)
		wantModel(t, x.h)
		if t.Failed() {
			t.Fatal(x.why)
		}
	}
}
