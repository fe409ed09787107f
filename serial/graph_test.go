package serial_test

import (
	"slices"
	"testing"

	"keystone/api"
)

func TestGraphsOfTheExamples(t *testing.T) { // P11.1
	wantGraph(t, skew(), rw(1, 2), rw(2, 1))
	wantGraph(t, history([]int{1, 2}, writes(1, "x"), reads(2, "x", 1), writes(2, "x")), wr(1, 2), ww(1, 2))
}

func TestGraphs(t *testing.T) { // P11.1
	for _, x := range []struct {
		why  string
		h    api.History
		want []api.Dep
	}{
		{"nothing at all", history(nil), nil},
		{"nothing done", history([]int{1, 2}), nil},
		{"reads alone", history([]int{1, 2}, reads(1, "x", 0), reads(2, "x", 0)), nil},
		{"different items", history([]int{1, 2}, reads(1, "x", 0), writes(2, "y")), nil},
		{"a read of what was there at first", history([]int{1, 2}, writes(1, "x"), reads(2, "x", 0)), []api.Dep{rw(2, 1)}},
		{"a read of another one's", history([]int{1, 2}, writes(1, "x"), reads(2, "x", 1)), []api.Dep{wr(1, 2)}},
		{"a read of one that commits behind it", history([]int{1, 2}, writes(2, "x"), reads(1, "x", 2)), []api.Dep{wr(2, 1)}},
		{"a read of its own, and of nothing else", history([]int{1, 2}, writes(1, "x"), reads(1, "x", 1), writes(2, "x")), []api.Dep{ww(1, 2)}},
		{"a read ahead of its own write", history([]int{1}, reads(1, "x", 0), writes(1, "x")), nil},
		{"a read behind its own write of what was there", history([]int{1}, writes(1, "x"), reads(1, "x", 0)), nil},
		{"only the next version", history([]int{1, 2, 3}, reads(1, "x", 0), writes(2, "x"), writes(3, "x")), []api.Dep{rw(1, 2), ww(2, 3)}},
		{"from the middle", history([]int{1, 2, 3}, writes(1, "x"), writes(3, "x"), reads(2, "x", 1)), []api.Dep{wr(1, 2), ww(1, 3), rw(2, 3)}},
		{"the commits' order, not the numbers'", history([]int{3, 1, 2}, writes(1, "x"), writes(2, "x"), writes(3, "x")), []api.Dep{ww(1, 2), ww(3, 1)}},
		{"nor the acts'", history([]int{2, 1}, writes(1, "x"), reads(1, "x", 2), writes(2, "x"), reads(2, "x", 0)), []api.Dep{wr(2, 1), ww(2, 1)}},
		{"an old version, with its own the next one", history([]int{1, 2, 3}, writes(1, "x"), writes(2, "x"), writes(3, "x"), reads(2, "x", 1)), []api.Dep{wr(1, 2), ww(1, 2), ww(2, 3)}},
		{"a version ahead of the one ahead of its own", history([]int{1, 2, 3}, writes(1, "x"), writes(2, "x"), writes(3, "x"), reads(3, "x", 1)), []api.Dep{ww(1, 2), wr(1, 3), ww(2, 3), rw(3, 2)}},
		{"a version behind its own", history([]int{1, 2, 3}, writes(1, "x"), writes(2, "x"), writes(3, "x"), reads(1, "x", 2)), []api.Dep{ww(1, 2), rw(1, 3), wr(2, 1), ww(2, 3)}},
		{"each once", history([]int{1, 2}, writes(1, "x"), writes(1, "y"), reads(2, "x", 1), reads(2, "y", 1), reads(2, "x", 1), writes(2, "x"), writes(2, "y")), []api.Dep{wr(1, 2), ww(1, 2)}},
		{"both of one read", history([]int{5, 2, 9}, writes(5, "x"), reads(9, "x", 5), writes(2, "x")), []api.Dep{ww(5, 2), wr(5, 9), rw(9, 2)}},
		{"all three kinds", history([]int{1, 2}, writes(1, "x"), writes(2, "x"), reads(2, "x", 1), reads(1, "y", 0), writes(2, "y")), []api.Dep{wr(1, 2), ww(1, 2), rw(1, 2)}},
	} {
		wantGraph(t, x.h, x.want...)
		wantModel(t, x.h)
		slices.Reverse(x.h.Acts) // their order says nothing
		wantGraph(t, x.h, x.want...)
		if t.Failed() {
			t.Fatal(x.why)
		}
	}
}
