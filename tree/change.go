package tree

import (
	"slices"

	"keystone/api"
)

// Put gives a key a number, and tells whether the key was not there.
func (t *Tree) Put(k string, v int64) (bool, api.Errno) {
	if !t.made() {
		return false, api.ErrMade
	}
	was := t.Len()
	t.change(k, func(x *leaf) *leaf { return x.with(k, v) })
	return t.Len() > was, api.OK
}

// Delete takes a key out, and tells whether it was there.
func (t *Tree) Delete(k string) (bool, api.Errno) {
	if !t.made() {
		return false, api.ErrMade
	}
	if _, there := t.Get(k); !there {
		return false, api.OK
	}
	t.change(k, func(x *leaf) *leaf { return x.without(k) })
	return true, api.OK
}

// change puts another leaf in the place of the one that has a key, or would have it.
func (t *Tree) change(k string, do func(*leaf) *leaf) {
	root := t.changed(t.root, k, do)
	if t.large(root) {
		left, key, right := split(root)
		root = newInner([]string{key}, []node{left, right})
	}
	if x, ok := root.(*inner); ok && len(x.kids) == 1 {
		root = x.kids[0]
	}
	t.root = root
}

// changed is a node behind a change of one leaf below it. It may have one part too many, or one too few; the nodes below it have not.
func (t *Tree) changed(n node, k string, do func(*leaf) *leaf) node {
	switch x := n.(type) {
	case *leaf:
		return do(x)
	case *inner:
		i := x.place(k)
		kid := t.changed(x.kids[i], k, do)
		return t.mend(newInner(x.keys, swapped(x.kids, i, i+1, kid)), i)
	}
	return n
}

// mend is an inner node whose kid i may have been too large or too small, with kids that are neither.
func (t *Tree) mend(x *inner, i int) *inner {
	if t.small(x.kids[i]) {
		i = max(i-1, 0) // it and the neighbour to its left, or, of the first one, to its right
		one := join(x.kids[i], x.keys[i], x.kids[i+1])
		x = newInner(swapped(x.keys, i, i+1), swapped(x.kids, i, i+2, one))
	}
	if t.large(x.kids[i]) {
		left, key, right := split(x.kids[i])
		x = newInner(swapped(x.keys, i, i, key), swapped(x.kids, i, i+1, left, right))
	}
	return x
}

// large tells whether a node has too many parts.
func (t *Tree) large(n node) bool {
	parts, most := t.fill(n)
	return parts > most
}

// small tells whether a node has too few parts for one that is not the root.
func (t *Tree) small(n node) bool {
	parts, most := t.fill(n)
	return parts < (most+1)/2
}

// fill is how many parts a node has, a leaf's keys or an inner node's kids, and how many it may have at most.
func (t *Tree) fill(n node) (int, int) {
	switch x := n.(type) {
	case *leaf:
		return len(x.keys), t.order - 1
	case *inner:
		return len(x.kids), t.order
	}
	return 0, 0
}

// split is two halves of a node, and the key between them. A node that is too large has two that are not too small.
func split(n node) (node, string, node) {
	switch x := n.(type) {
	case *leaf:
		at := len(x.keys) / 2
		left := &leaf{slices.Clone(x.keys[:at]), slices.Clone(x.nums[:at])}
		right := &leaf{slices.Clone(x.keys[at:]), slices.Clone(x.nums[at:])}
		return left, right.keys[0], right
	case *inner:
		at := len(x.kids) / 2
		left := newInner(slices.Clone(x.keys[:at-1]), slices.Clone(x.kids[:at]))
		right := newInner(slices.Clone(x.keys[at:]), slices.Clone(x.kids[at:]))
		return left, x.keys[at-1], right
	}
	return n, "", n
}

// join is one node of two neighbours, which are of one kind, as they lie at one depth, and of the key between them.
func join(left node, key string, right node) node {
	switch x := left.(type) {
	case *leaf:
		y := right.(*leaf)
		return &leaf{slices.Concat(x.keys, y.keys), slices.Concat(x.nums, y.nums)}
	case *inner:
		y := right.(*inner)
		return newInner(slices.Concat(x.keys, []string{key}, y.keys), slices.Concat(x.kids, y.kids))
	}
	return left
}
