package serial_test

import (
	"math"
	"strconv"
	"testing"

	"keystone/api"
)

func TestRightHistories(t *testing.T) { // P11.1
	for _, h := range []api.History{
		{},
		skew(),
		history([]int{1}),
		history([]int{7, 3, math.MaxInt}, reads(math.MaxInt, "x", 3), writes(3, "x")), // any numbers from 1 on, in any order
		history([]int{1, 2}, reads(1, "x", 2), writes(2, "x")),                        // of one that commits behind it
		history([]int{1}, reads(1, "x", 1), writes(1, "x")),                           // its own version, ahead of the write or behind it
		history([]int{1}, writes(1, "x"), reads(1, "x", 1)),
		history([]int{1}, writes(1, "x"), reads(1, "x", 0)),
		history([]int{1}, reads(1, "x", 0), reads(1, "x", 0)), // a read may be there twice
		history([]int{1, 2}, writes(2, "x"), reads(1, "x", 2), reads(1, "x", 0)),
		history([]int{1}, writes(1, "x"), writes(1, "y"), writes(1, "")),
		history([]int{1, 2}, writes(1, "x"), writes(2, "x")),
		history([]int{1, 2}, writes(1, ""), reads(2, "", 1)), // an item is any text
		history([]int{1, 2}, writes(1, "\xff\x00"), reads(2, "\xff\x00", 1)),
	} {
		wantRight(t, h)
	}
}

func TestWrongHistories(t *testing.T) { // P11.1
	for _, h := range []api.History{
		history([]int{0}),
		history([]int{-1}),
		history([]int{math.MinInt}),
		history([]int{2, 1, 0}),
		history([]int{1, 1}),
		history([]int{3, 1, 2, 3}),
		history(nil, reads(1, "x", 0)),
		history([]int{1}, reads(2, "x", 0)),
		history([]int{1}, writes(2, "x")),
		history([]int{1}, reads(0, "x", 0)),
		history([]int{1}, writes(0, "x")),
		history([]int{1}, writes(1, "x"), api.Act{Txn: 1, Write: true, Item: "y", Ver: 1}),
		history([]int{1}, api.Act{Txn: 1, Write: true, Item: "x", Ver: -1}),
		history([]int{1, 2}, writes(2, "x"), api.Act{Txn: 1, Write: true, Item: "x", Ver: 2}),
		history([]int{1}, writes(1, "x"), writes(1, "x")),
		history([]int{1, 2}, writes(1, "x"), writes(2, "x"), reads(1, "y", 0), writes(1, "x")),
		history([]int{1}, reads(1, "x", 1)),
		history([]int{1, 2}, reads(1, "x", 2)),
		history([]int{1, 2}, reads(1, "x", 2), writes(2, "y")),
		history([]int{1, 2}, reads(1, "x", 2), reads(2, "x", 0)),
		history([]int{1}, reads(1, "x", 2)),
		history([]int{1}, reads(1, "x", 2), writes(2, "x")),
		history([]int{1}, reads(1, "x", -1)),
		history([]int{1}, reads(1, "x", math.MinInt)),
	} {
		wantWrong(t, h)
	}
}

func TestAsManyAsThereMayBe(t *testing.T) { // P11.1
	for _, x := range []struct {
		acts, commits int
		right         bool
	}{
		{api.MaxActs, api.MaxActs, true},
		{api.MaxActs + 1, api.MaxActs, false},
		{api.MaxActs, api.MaxActs + 1, false},
		{api.MaxActs, 1, true},
		{api.MaxActs + 1, 1, false},
		{0, api.MaxActs, true},
		{0, api.MaxActs + 1, false},
	} {
		h := history(upTo(x.commits))
		for i := range x.acts {
			h.Acts = append(h.Acts, writes(1+i%x.commits, strconv.Itoa(i)))
		}
		if x.right {
			wantRight(t, h)
		} else {
			wantWrong(t, h)
		}
	}
}
