package check

import (
	"iter"
	"slices"

	"riposte/api"
)

// span is the nodes from one on up to, but not with, another one.
type span struct{ from, to int }

// scope is a right tree that knows what is above each node, and where each declaration is in sight.
type scope struct {
	api.Tree
	ups    []int
	sights []span
}

// scopeOf returns the scope of a right tree.
func scopeOf(t api.Tree) *scope {
	s := &scope{Tree: t, ups: make([]int, len(t.Nodes)), sights: make([]span, len(t.Nodes))}
	for n := range len(t.Nodes) {
		for kid := range s.kids(n) {
			s.ups[kid] = n
		}
		s.sights[n] = s.sightOf(n)
	}
	return s
}

// kids yields the kids of a node.
func (s *scope) kids(n int) iter.Seq[int] {
	return func(yield func(int) bool) {
		end := n + s.Nodes[n].Size
		for kid := n + 1; kid < end && yield(kid); {
			kid += s.Nodes[kid].Size
		}
	}
}

// within yields a node, and all below it.
func (s *scope) within(n int) iter.Seq[int] {
	return func(yield func(int) bool) {
		for i := range s.Nodes[n].Size {
			if !yield(n + i) {
				return
			}
		}
	}
}

// row returns the kids of a node as a list.
func (s *scope) row(n int) []int { return slices.Collect(s.kids(n)) }

// itemOf returns the item in which a node is.
func (s *scope) itemOf(n int) int {
	for s.ups[n] > 0 {
		n = s.ups[n]
	}
	return n
}

// sightOf returns the nodes at which a declaration is in sight; none of what is no declaration.
func (s *scope) sightOf(n int) span {
	all := func(n int) span { return span{n, n + s.Nodes[n].Size} }
	switch s.Nodes[n].Kind {
	case api.ImportItem, api.DefItem:
		return span{all(n).to, len(s.Nodes)}
	case api.ParamNode, api.BindNode:
		around := s.row(s.ups[n])
		return all(around[len(around)-1])
	case api.NewNode, api.LabelNode:
		return all(n + 1)
	}
	return span{}
}

// sees reports whether a declaration is in sight at a node.
func (s *scope) sees(n, d int) bool { return s.sights[d].from <= n && n < s.sights[d].to }

// is reports whether a node is of one of some kinds.
func (s *scope) is(n int, kinds ...uint8) bool { return slices.Contains(kinds, s.Nodes[n].Kind) }

// isItem, isDeclaration, isName and isTerm report what a node is; a name is a node that can mean a declaration.
func (s *scope) isItem(n int) bool {
	return s.is(n, api.ImportItem, api.DefItem, api.ExportItem)
}

func (s *scope) isDeclaration(n int) bool {
	return s.isItem(n) || s.is(n, api.ParamNode, api.NewNode, api.LabelNode, api.BindNode)
}

func (s *scope) isName(n int) bool {
	return s.is(n, api.NameNode, api.CallNode, api.GetNode, api.PutNode, api.NoticeNode, api.JumpNode)
}

func (s *scope) isTerm(n int) bool {
	return api.SeqNode <= s.Nodes[n].Kind && s.Nodes[n].Kind <= api.CallNode // the kinds of terms stand together in api
}

// means returns the declaration that a node means, and whether there is one. What is in sight at a node has a smaller number.
func (s *scope) means(n int) (int, bool) {
	if !s.isName(n) {
		return 0, false
	}
	for d := n - 1; d > 0; d-- {
		if s.sees(n, d) && s.Nodes[d].Text == s.Nodes[n].Text && s.is(d, api.LabelNode) == s.is(n, api.JumpNode) {
			return d, true
		}
	}
	return 0, false
}

// uses returns the nodes that mean a declaration.
func (s *scope) uses(d int) []int {
	var l []int
	for n := range len(s.Nodes) {
		if meant, ok := s.means(n); ok && meant == d {
			l = append(l, n)
		}
	}
	return l
}

// Means returns the declaration that a node means.
func Means(t api.Tree, n int) (int, api.Errno) {
	s, e := look(t, n)
	if e != api.OK {
		return 0, e
	}
	if !s.isName(n) {
		return 0, api.ErrNone
	}
	d, ok := s.means(n)
	if !ok {
		return 0, api.ErrName
	}
	return d, api.OK
}

// Uses returns the nodes that mean a declaration.
func Uses(t api.Tree, n int) ([]int, api.Errno) {
	s, e := look(t, n)
	if e != api.OK {
		return nil, e
	}
	if !s.isDeclaration(n) {
		return nil, api.ErrNone
	}
	return s.uses(n), api.OK
}

// Sight returns the declarations that are in sight at a node.
func Sight(t api.Tree, n int) ([]int, api.Errno) {
	s, e := look(t, n)
	if e != api.OK {
		return nil, e
	}
	var l []int
	for d := range len(s.Nodes) {
		if s.sees(n, d) {
			l = append(l, d)
		}
	}
	return l, api.OK
}
