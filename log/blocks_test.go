package log_test

import (
	"math"
	"testing"

	"keystone/api"
	"keystone/log"
)

func TestBlocks(t *testing.T) { // P3.1
	cases := []struct{ n, want int }{
		{0, 1}, {1, 1}, {39, 1}, {40, 1}, {41, 2}, {79, 2}, {80, 2}, {81, 3}, {100, 3},
		{api.MaxRecord, 1639}, {api.MaxRecord + 1, 1639}, {1639 * 40, 1639}, {1639*40 + 1, 1640},
		{-1, 0}, {-40, 0}, {-41, 0}, {math.MinInt, 0}, {math.MinInt + 1, 0},
		{math.MaxInt, math.MaxInt/api.LogLoad + 1}, {math.MaxInt - 7, math.MaxInt / api.LogLoad}, {math.MaxInt - 6, math.MaxInt/api.LogLoad + 1},
	}
	for _, c := range cases {
		if got := log.Blocks(c.n); got != c.want {
			t.Errorf("Blocks(%d): %d, not %d", c.n, got, c.want)
		}
	}
}
