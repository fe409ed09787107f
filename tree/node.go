package tree

import "slices"

// node is a leaf, or an inner node.
type node interface {
	count() int // how many keys lie in the leaves below it, or in it, if it is one
}

// leaf is keys, rising, each with its number.
type leaf struct {
	keys []string
	nums []int64
}

// inner is a node of one kid more than keys. Its key i is above all keys below its kid i, and not above any below its kid i + 1.
type inner struct {
	keys []string
	kids []node
	all  int // keys in the leaves below it: so that places among them are found without going through them
}

func newInner(keys []string, kids []node) *inner {
	x := &inner{keys: keys, kids: kids}
	for _, kid := range kids {
		x.all += kid.count()
	}
	return x
}

func (x *leaf) count() int {
	return len(x.keys)
}

func (x *inner) count() int {
	return x.all
}

// with is a leaf in which a key has a number.
func (x *leaf) with(k string, v int64) *leaf {
	i, there := slices.BinarySearch(x.keys, k)
	if there {
		return &leaf{x.keys, swapped(x.nums, i, i+1, v)}
	}
	return &leaf{swapped(x.keys, i, i, k), swapped(x.nums, i, i, v)}
}

// without is a leaf in which a key is not.
func (x *leaf) without(k string) *leaf {
	i, there := slices.BinarySearch(x.keys, k)
	if !there {
		return x
	}
	return &leaf{swapped(x.keys, i, i+1), swapped(x.nums, i, i+1)}
}

// place is the number of the kid below which a key lies, if it is there.
func (x *inner) place(k string) int {
	i, there := slices.BinarySearch(x.keys, k)
	if there {
		i++
	}
	return i
}

// swapped is a new list, in which others stand instead of those from one place on, below another.
func swapped[T any](l []T, from, to int, others ...T) []T {
	return slices.Concat(l[:from], others, l[to:])
}
