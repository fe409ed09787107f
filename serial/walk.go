package serial

import "math/bits"

// walk is a serial order on its way: it is laid down from its beginning on, and taken back from its end.
type walk struct {
	net   *net
	laid  []int    // ranks
	waits []int    // for how many others that are not laid down each one waits
	ready []uint64 // the ranks that may be laid down next, as bits
}

func newWalk(g *net) *walk {
	w := &walk{net: g, waits: make([]int, len(g.numbers)), ready: make([]uint64, len(g.numbers)/64+1)}
	for rank := range g.numbers {
		w.waits[rank] = len(g.ins[rank])
		if w.waits[rank] == 0 {
			w.flip(rank)
		}
	}
	return w
}

// flip makes one ready, or not ready any more.
func (w *walk) flip(rank int) {
	w.ready[rank/64] ^= 1 << (rank % 64)
}

// readyFrom is the least one from a rank on that may be laid down next; -1, if there is none.
func (w *walk) readyFrom(rank int) int {
	mask := ^uint64(0) << (rank % 64)
	for i := rank / 64; i < len(w.ready); i++ {
		if some := w.ready[i] & mask; some != 0 {
			return i*64 + bits.TrailingZeros64(some)
		}
		mask = ^uint64(0)
	}
	return -1
}

func (w *walk) lay(rank int) {
	w.laid = append(w.laid, rank)
	w.flip(rank)
	for _, to := range w.net.outs[rank] {
		w.waits[to]--
		if w.waits[to] == 0 {
			w.flip(to)
		}
	}
}

// takeBack takes the last one away.
func (w *walk) takeBack() int {
	last := len(w.laid) - 1
	rank := w.laid[last]
	w.laid = w.laid[:last]
	w.flip(rank)
	for _, to := range w.net.outs[rank] {
		if w.waits[to] == 0 {
			w.flip(to)
		}
		w.waits[to]++
	}
	return rank
}

// fill lays down the first ones that may be laid down, up to the end; false: not all of them, as there is a round.
func (w *walk) fill() bool {
	for rank := w.readyFrom(0); rank >= 0; rank = w.readyFrom(0) {
		w.lay(rank)
	}
	return len(w.laid) == len(w.net.numbers)
}

// next goes on to the next order behind one that is whole; false: that was the last one.
func (w *walk) next() bool {
	for len(w.laid) > 0 {
		rank := w.takeBack()
		if greater := w.readyFrom(rank + 1); greater >= 0 {
			w.lay(greater)
			return w.fill()
		}
	}
	return false
}

// order is what is laid down, as numbers.
func (w *walk) order() []int {
	l := make([]int, len(w.laid))
	for i, rank := range w.laid {
		l[i] = w.net.numbers[rank]
	}
	return l
}
