package types

import (
	"slices"

	"keystone/api"
)

// checkRounds looks for helpers that call themselves, by way of others or not, from a place of some procedures on.
func checkRounds(procs []api.Proc, from int) {
	called := make([][]int, len(procs))
	for i, p := range procs {
		called[i] = calledBy(procs, p)
	}
	for i, p := range procs[from:] {
		must(!p.Helper || !inRound(called, from+i), p.At, api.ErrRound)
	}
}

// inRound tells whether calls lead from a procedure back to it.
func inRound(called [][]int, start int) bool {
	reached := copied(called[start])
	for i := 0; i < len(reached); i++ { // which grows
		for _, next := range called[reached[i]] {
			if !slices.Contains(reached, next) {
				reached = append(reached, next)
			}
		}
	}
	return slices.Contains(reached, start)
}

// calledBy are the places of the helpers that a procedure calls, as they first stand in its text.
func calledBy(procs []api.Proc, p api.Proc) []int {
	var l []int
	eachTerm(p.Body, func(t api.Term) {
		if t.Op != api.XCall {
			return
		}
		i := procNumber(procs, t.Name)
		if i >= 0 && procs[i].Helper && !slices.Contains(l, i) {
			l = append(l, i)
		}
	})
	return l
}

// eachTerm tells all terms of some statements, as they stand in the text, but a term ahead of its operands.
func eachTerm(l []api.Stmt, tell func(api.Term)) {
	for _, s := range l {
		eachWithin(s.Args, tell)
		eachWithin(s.Vals, tell)
		eachTerm(s.Body, tell)
		eachTerm(s.Else, tell)
	}
}

func eachWithin(l []api.Term, tell func(api.Term)) {
	for _, t := range l {
		tell(t)
		eachWithin(t.Args, tell)
	}
}
