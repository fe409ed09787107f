package serial

import (
	"slices"

	"keystone/api"
)

// net is a graph of dependencies for going about in: a transaction is its rank among the numbers of all, so that what comes first by rank comes first by number.
type net struct {
	numbers []int   // rising
	outs    [][]int // where dependencies lead to from each, rising; the same one twice, if by two kinds
	ins     [][]int // where they come from
}

// newNet is the net of a right history.
func newNet(h api.History) *net {
	g := &net{numbers: slices.Sorted(slices.Values(h.Commits))}
	g.outs = make([][]int, len(g.numbers))
	g.ins = make([][]int, len(g.numbers))
	rank, _ := places(g.numbers)
	for _, d := range dependencies(h) {
		from, to := rank[d.From], rank[d.To]
		g.outs[from] = append(g.outs[from], to)
		g.ins[to] = append(g.ins[to], from)
	}
	return g
}

// round is the first one of the shortest rounds.
func (g *net) round() []int {
	var best []int // the steps to the least rank that lies on one
	first := -1
	for rank := range g.numbers {
		if steps := g.steps(rank); steps[rank] > 0 && (first < 0 || steps[rank] < best[first]) {
			first, best = rank, steps
		}
	}
	if first < 0 {
		return nil
	}
	l := []int{g.numbers[first]}
	at := first
	for left := best[first] - 1; left > 0; left-- {
		near := slices.IndexFunc(g.outs[at], func(to int) bool { return best[to] == left })
		at = g.outs[at][near]
		l = append(l, g.numbers[at])
	}
	return l
}

// steps counts how many dependencies lead from each rank to an aim, at the least, as far as the aim itself is: of that one, how long the shortest round through it is. 0: no way was found.
func (g *net) steps(aim int) []int {
	steps := make([]int, len(g.numbers))
	far := append(make([]int, 0, len(g.numbers)), aim)
	for len(far) > 0 && steps[aim] == 0 {
		at := far[0]
		far = far[1:]
		for _, from := range g.ins[at] {
			if steps[from] == 0 {
				steps[from] = steps[at] + 1
				far = append(far, from)
			}
		}
	}
	return steps
}
