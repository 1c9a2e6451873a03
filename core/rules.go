package core

import (
	"slices"

	"riposte/api"
)

// rule is how nodes of a kind become terms.
type rule func(x node) maker

// rules returns the rules of all kinds of terms.
func rules() map[uint8]rule {
	return map[uint8]rule{
		api.NumNode:    node.num,
		api.TrueNode:   constant(1, 2),
		api.FalseNode:  constant(0, 2),
		api.SkipNode:   constant(0, 1),
		api.AsNode:     node.as,
		api.AddNode:    operation(api.OpAdd),
		api.SubNode:    operation(api.OpSub),
		api.MulNode:    operation(api.OpMul),
		api.EqNode:     operation(api.OpEq),
		api.LessNode:   operation(api.OpLess),
		api.OrNode:     node.or,
		api.AndNode:    node.and,
		api.NotNode:    node.not,
		api.SeqNode:    node.sequence,
		api.IfNode:     as(api.TermIf),
		api.WhileNode:  as(api.TermWhile),
		api.ChooseNode: as(api.TermChoose),
		api.HangNode:   as(api.TermHang),
		api.NewNode:    node.cell,
		api.LabelNode:  node.label,
		api.NoticeNode: node.notice,
		api.JumpNode:   node.jump,
		api.NameNode:   node.name,
		api.CallNode:   node.call,
		api.GetNode:    node.get,
		api.PutNode:    node.put,
	}
}

// as returns the rule of nodes that become terms of a kind with the same kids.
func as(kind uint8) rule {
	return func(x node) maker { return x.build(api.Term{Kind: kind}, x.all()...) }
}

// all returns what makes the terms of the kids.
func (x node) all() []maker {
	var l []maker
	for _, kid := range x.row() {
		l = append(l, kid.take)
	}
	return l
}

// constant returns the rule of nodes that become an integer of a size.
func constant(n, size int) rule {
	return func(x node) maker { return x.integer(n, size) }
}

// operation returns the rule of nodes that become an operation on integers of the size of the kids.
func operation(op int) rule {
	return func(x node) maker {
		return x.build(api.Term{Kind: api.TermOp, N: op, M: x.kid(0).size()}, x.all()...)
	}
}

func (x node) num() maker { return x.integer(x.number(), x.size()) }

// as takes a number by itself: it can be greater than any size.
func (x node) as() maker {
	kid := x.kid(0)
	if kid.kind() == api.NumNode {
		return x.integer(kid.number()%x.number(), x.number())
	}
	return x.build(api.Term{Kind: api.TermAs, N: x.number()}, kid.take)
}

// choice returns what makes the term that chooses by its first kid.
func (x node) choice(kids ...maker) maker { return x.build(api.Term{Kind: api.TermIf}, kids...) }

func (x node) or() maker { return x.choice(x.kid(0).take, x.integer(1, 2), x.kid(1).take) }

func (x node) and() maker { return x.choice(x.kid(0).take, x.kid(1).take, x.integer(0, 2)) }

func (x node) not() maker { return x.choice(x.kid(0).take, x.integer(0, 2), x.integer(1, 2)) }

func (x node) sequence() maker {
	l := x.all()
	last := len(l) - 1
	made := l[last]
	for _, kid := range slices.Backward(l[:last]) {
		made = x.build(api.Term{Kind: api.TermSeq}, kid, made)
	}
	return made
}

func (x node) cell() maker {
	t := api.Term{Kind: api.TermNew, N: x.number(), M: x.Nodes[x.n].M}
	return x.build(t, x.bring(x.n, api.TermGet).kid(0).take)
}

// label has the number of labels around it: a jump to it goes past all those that have come since.
func (x node) label() maker {
	first := x.with(x.n, meaning{kind: api.TermJump, number: x.labels}).kid(0)
	first.labels++
	return x.build(api.Term{Kind: api.TermLabel}, first.take, x.kid(1).take)
}

func (x node) jump() maker {
	return x.build(api.Term{Kind: api.TermJump, N: x.labels - 1 - x.means().number})
}

func (x node) notice() maker {
	return x.build(api.Term{Kind: api.TermNotice, Id: x.means().number, N: x.number()}, x.kid(0).take)
}

// name is of something that is asked: what an integer is that stands for a name, is asked by this name.
func (x node) name() maker { return x.ask(x.means()) }

// call is of something that has params: a param that stands for a name is called as that name.
func (x node) call() maker { return x.ask(x.follows()) }

// ask returns what makes the term of what a name or a call means.
func (x node) ask(m meaning) maker {
	if m.kind == 0 {
		return x.enter(x.at(m))
	}
	var args []maker
	for k, kid := range x.row() {
		args = append(args, kid.argument(x.arena.Ids[m.number-1].Params[k]))
	}
	return x.build(api.Term{Kind: m.kind, Id: m.number}, args...)
}

// enter returns what makes the term of a definition or a FnNode, whose params stand for the kids of the node, or of an argument.
func (x node) enter(y node) maker {
	if y.kind() != api.DefItem && y.kind() != api.FnNode {
		return y.take
	}
	params := y.row()
	for k, arg := range x.row() {
		y = y.with(params[k].n, meaning{node: arg.n, names: arg.names})
	}
	return y.last().take
}

// argument returns what makes the argument for a base type that the node is.
func (x node) argument(b api.Base) maker {
	switch {
	case !b.Cell:
		return x.take
	case x.kind() == api.NameNode:
		return x.handOn(x.follows())
	}
	return x.handOn(meaning{node: x.n, names: x.names})
}

// handOn returns what makes a cell, or an object, an argument.
func (x node) handOn(m meaning) maker {
	if m.kind != 0 {
		return x.build(api.Term{Kind: api.TermCell, Id: m.number})
	}
	object := x.at(m)
	return x.build(api.Term{Kind: api.TermObject}, object.kid(0).take, object.becoming(api.TermVal).take)
}

// becoming returns what an object does when it is put, where its BindNode brings an identifier.
func (x node) becoming(kind uint8) node { return x.bring(x.kid(1).n, kind).kid(2) }

func (x node) get() maker {
	m := x.follows()
	if m.kind != 0 {
		return x.build(api.Term{Kind: api.TermGet, Id: m.number})
	}
	return x.at(m).kid(0).take
}

// put makes a new cell for what an object is told to become.
func (x node) put() maker {
	m := x.follows()
	if m.kind != 0 {
		return x.build(api.Term{Kind: api.TermPut, Id: m.number}, x.kid(0).take)
	}
	size, becoming := x.kid(0).size(), x.at(m).becoming(api.TermGet)
	x.ids++
	set := x.build(api.Term{Kind: api.TermPut, Id: x.ids}, x.kid(0).take)
	both := x.build(api.Term{Kind: api.TermSeq}, set, becoming.take)
	return x.build(api.Term{Kind: api.TermNew, N: size}, both)
}
