package core

import "riposte/api"

// meaning is what a declaration stands for: something that has a number, and the kind of the term that a name of it becomes; or, if there is no such kind, a node with the names that are in sight there.
type meaning struct {
	kind   uint8
	number int
	node   int
	names  *names
}

// names are a declaration that is in sight, what it stands for, and the ones around it.
type names struct {
	name   string
	stands meaning
	around *names
}

// place is where a node becomes a term: the names that are in sight at the node, and how many identifiers and labels are in sight of the term.
type place struct {
	*names
	ids, labels int
}

// node is a node that becomes a term at a place.
type node struct {
	*program
	place
	n int
}

// take makes the term of the node.
func (x node) take() api.Term {
	x.taken++
	if x.taken > api.MaxTaken {
		panic(tooMany{})
	}
	return x.rules[x.kind()](x)()
}

// kind, text and number return what the tree says of the node.
func (x node) kind() uint8 { return x.Nodes[x.n].Kind }

func (x node) text() string { return x.Nodes[x.n].Text }

func (x node) number() int { return x.Nodes[x.n].N }

// size returns the size that the node is given.
func (x node) size() int { return x.sizeOf(x.n) }

// row returns the kids, at the same place.
func (x node) row() []node {
	var l []node
	for n := x.n + 1; n < x.n+x.Nodes[x.n].Size; n += x.Nodes[n].Size {
		l = append(l, node{x.program, x.place, n})
	}
	return l
}

// kid returns a kid, last the last one.
func (x node) kid(k int) node { return x.row()[k] }

func (x node) last() node {
	l := x.row()
	return l[len(l)-1]
}

// with returns the node where one more declaration is in sight.
func (x node) with(declaration int, m meaning) node {
	x.names = &names{x.Nodes[declaration].Text, m, x.names}
	return x
}

// bring returns the node where a declaration is in sight that brings an identifier, whose names become terms of a kind.
func (x node) bring(declaration int, kind uint8) node {
	x.ids++
	return x.with(declaration, meaning{kind: kind, number: x.ids})
}

// at returns the node that something stands for, with its own names, at the place of this one.
func (x node) at(m meaning) node {
	return node{x.program, place{m.names, x.ids, x.labels}, m.node}
}

// means returns what the declaration stands for that the node means. In a program without an error those in sight have different names.
func (x node) means() meaning {
	s := x.names
	for s.name != x.text() {
		s = s.around
	}
	return s.stands
}

// follows returns what the node means in the end: a param that stands for a name stands for what that name stands for.
func (x node) follows() meaning {
	m := x.means()
	for m.kind == 0 && x.at(m).kind() == api.NameNode {
		m = x.at(m).means()
	}
	return m
}
