package parse

import "riposte/api"

// knot is a node with its kids. An operation is read behind its first kid and stands in front of it, so nodes are put in a row only when all are read.
type knot struct {
	api.TreeNode
	kids []*knot
}

// tie returns a knot with some kids.
func tie(kind uint8, at int, kids ...*knot) *knot {
	return &knot{TreeNode: api.TreeNode{Kind: kind, At: at}, kids: kids}
}

// appendTo returns a list with all nodes of a knot behind it.
func (k *knot) appendTo(l []api.TreeNode) []api.TreeNode {
	n := len(l)
	l = append(l, k.TreeNode)
	for _, kid := range k.kids {
		l = kid.appendTo(l)
	}
	l[n].Size = len(l) - n
	return l
}
