package parse

import (
	"iter"
	"slices"

	"riposte/api"
)

// kidsOf yields the kids of a node. The Sizes must be right.
func kidsOf(l []api.TreeNode, n int) iter.Seq[int] {
	return func(yield func(int) bool) {
		for kid := n + 1; kid < n+l[n].Size; kid += l[kid].Size {
			if !yield(kid) {
				return
			}
		}
	}
}

// upsOf returns for each node the one whose kid it is (-1 for the node 0), and whether the Sizes are right.
func upsOf(l []api.TreeNode) ([]int, bool) {
	if len(l) == 0 || l[0].Size != len(l) {
		return nil, false
	}
	ups := []int{-1}
	for n := 1; n < len(l); n++ {
		up := n - 1
		for up+l[up].Size == n {
			up = ups[up]
		}
		if l[n].Size < 1 || l[n].Size > up+l[up].Size-n {
			return nil, false
		}
		ups = append(ups, up)
	}
	return ups, true
}

// depthOf returns the greatest depth of all nodes.
func depthOf(ups []int) int {
	most := 0
	depths := make([]int, len(ups))
	for n := 1; n < len(ups); n++ {
		depths[n] = depths[ups[n]] + 1
		most = max(most, depths[n])
	}
	return most
}

// tell returns what is told of a node of a tree, or the error of the tree, or that there is no such node.
func tell[T any](t api.Tree, n int, told func(l []api.TreeNode, n int) (T, api.Errno)) (T, api.Errno) {
	var none T
	if e := Check(t); e != api.OK {
		return none, e
	}
	if n < 0 || n >= len(t.Nodes) {
		return none, api.ErrRange
	}
	return told(t.Nodes, n)
}

// Kids returns the kids of a node.
func Kids(t api.Tree, n int) ([]int, api.Errno) {
	return tell(t, n, func(l []api.TreeNode, n int) ([]int, api.Errno) {
		return slices.Collect(kidsOf(l, n)), api.OK
	})
}

// Up returns the node whose kid a node is.
func Up(t api.Tree, n int) (int, api.Errno) {
	return tell(t, n, func(l []api.TreeNode, n int) (int, api.Errno) {
		if n == 0 {
			return 0, api.ErrNone
		}
		ups, _ := upsOf(l)
		return ups[n], api.OK
	})
}

// Sub returns the nodes of a node.
func Sub(t api.Tree, n int) ([]api.TreeNode, api.Errno) {
	return tell(t, n, func(l []api.TreeNode, n int) ([]api.TreeNode, api.Errno) {
		return slices.Clone(l[n : n+l[n].Size]), api.OK
	})
}

// Graft returns the tree in which a node has become other nodes.
func Graft(t api.Tree, n int, l []api.TreeNode) (api.Tree, api.Errno) {
	return tell(t, n, func(old []api.TreeNode, n int) (api.Tree, api.Errno) {
		ups, _ := upsOf(old)
		size := old[n].Size
		grafted := api.Tree{Nodes: slices.Concat(old[:n], l, old[n+size:])}
		for up := ups[n]; up >= 0; up = ups[up] {
			grafted.Nodes[up].Size += len(l) - size
		}
		if e := Check(grafted); e != api.OK {
			return api.Tree{}, e
		}
		return grafted, api.OK
	})
}

// Find returns the first item with a name.
func Find(t api.Tree, name string) (int, api.Errno) {
	return tell(t, 0, func(l []api.TreeNode, n int) (int, api.Errno) {
		for item := range kidsOf(l, n) {
			if l[item].Text == name {
				return item, api.OK
			}
		}
		return 0, api.ErrNone
	})
}

// Bare returns the tree without places.
func Bare(t api.Tree) (api.Tree, api.Errno) {
	return tell(t, 0, func(l []api.TreeNode, _ int) (api.Tree, api.Errno) {
		bare := slices.Clone(l)
		for n := range bare {
			bare[n].At = 0
		}
		return api.Tree{Nodes: bare}, api.OK
	})
}
