package tree

import (
	"iter"
	"slices"
)

// Get is a key's number; false, if the key is not there.
func (t *Tree) Get(k string) (int64, bool) {
	if !t.made() {
		return 0, false
	}
	return get(t.root, k)
}

func get(n node, k string) (int64, bool) {
	switch x := n.(type) {
	case *leaf:
		if i, there := slices.BinarySearch(x.keys, k); there {
			return x.nums[i], true
		}
	case *inner:
		return get(x.kids[x.place(k)], k)
	}
	return 0, false
}

// Next is the least key that is above k, or, if not beyond, k itself or above it, and its number; false, if there is none.
func (t *Tree) Next(k string, beyond bool) (string, int64, bool) {
	i := t.Rank(k)
	if _, there := t.Get(k); there && beyond {
		i++
	}
	return t.At(i)
}

// Rank is how many keys are below k.
func (t *Tree) Rank(k string) int {
	if !t.made() {
		return 0
	}
	return rank(t.root, k)
}

func rank(n node, k string) int {
	switch x := n.(type) {
	case *leaf:
		i, _ := slices.BinarySearch(x.keys, k)
		return i
	case *inner:
		at := x.place(k)
		ahead := 0
		for _, kid := range x.kids[:at] {
			ahead += kid.count()
		}
		return ahead + rank(x.kids[at], k)
	}
	return 0
}

// At is the key number i, from 0 on, and its number; false, if there is none.
func (t *Tree) At(i int) (string, int64, bool) {
	if i < 0 || i >= t.Len() {
		return "", 0, false
	}
	return keyAt(t.root, i)
}

// keyAt is the key number i of those below a node, which are more than i, and its number.
func keyAt(n node, i int) (string, int64, bool) {
	switch x := n.(type) {
	case *leaf:
		return x.keys[i], x.nums[i], true
	case *inner:
		at := 0
		for i >= x.kids[at].count() {
			i -= x.kids[at].count()
			at++
		}
		return keyAt(x.kids[at], i)
	}
	return "", 0, false
}

// Scan goes through the keys from one on, below another, with their numbers, as the tree is now.
func (t *Tree) Scan(from, to string) iter.Seq2[string, int64] {
	if !t.made() {
		return func(func(string, int64) bool) {}
	}
	root := t.root
	return func(tell func(string, int64) bool) {
		scan(root, from, to, tell)
	}
}

// scan tells the keys below a node, from one on, below another. It tells whether more are wanted.
func scan(n node, from, to string, tell func(string, int64) bool) bool {
	switch x := n.(type) {
	case *leaf:
		i, _ := slices.BinarySearch(x.keys, from)
		for ; i < len(x.keys) && x.keys[i] < to; i++ {
			if !tell(x.keys[i], x.nums[i]) {
				return false
			}
		}
	case *inner:
		last := x.place(to)
		for i := x.place(from); i <= last; i++ {
			if !scan(x.kids[i], from, to, tell) {
				return false
			}
		}
	}
	return true
}
