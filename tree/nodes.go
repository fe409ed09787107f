package tree

import (
	"slices"

	"keystone/api"
)

// Nodes are the nodes as they lie, depth by depth, each depth from the left to the right.
func (t *Tree) Nodes() []api.TreeNode {
	if !t.made() {
		return nil
	}
	row := []node{t.root}
	var told []api.TreeNode
	for i := 0; i < len(row); i++ {
		one, kids := describe(row[i], len(row))
		told = append(told, one)
		row = append(row, kids...)
	}
	return told
}

// describe is a node as it is told, if its kids are told from a number on, and its kids.
func describe(n node, number int) (api.TreeNode, []node) {
	switch x := n.(type) {
	case *leaf:
		return api.TreeNode{Leaf: true, Keys: slices.Clone(x.keys)}, nil
	case *inner:
		one := api.TreeNode{Keys: slices.Clone(x.keys)}
		for i := range x.kids {
			one.Kids = append(one.Kids, number+i)
		}
		return one, x.kids
	}
	return api.TreeNode{}, nil
}
