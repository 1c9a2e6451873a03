package check

import (
	"math/rand/v2"
	"slices"
	"strconv"

	"riposte/api"
	"riposte/parse"
)

// name is a declaration that is in sight: its kind, its type, and what a call of it takes.
type name struct {
	text   string
	kind   uint8
	typed  bool // whether it has a type: params then tell it
	params []api.Type
	result api.Base
}

// maker makes a random program without errors, and knows of each term whether it has an own size.
type maker struct {
	*rand.Rand
	items, locals []name
	left, deep    int // how many nodes may come before all becomes short; how many terms are around
	count         int // locals of this item
}

// program returns a random program without errors, of about some nodes for each item.
func program(r *rand.Rand, items, nodes int) api.Tree {
	m := &maker{Rand: r}
	var l [][]api.TreeNode
	for i := range items {
		m.left, m.count, m.locals = nodes, 0, nil
		l = append(l, m.item("i"+strconv.Itoa(i)))
	}
	return api.Tree{Nodes: node(api.TreeNode{Kind: api.ProgramNode}, l...)}
}

// pick returns one of a list.
func pick[T any](r *rand.Rand, l ...T) T { return l[r.IntN(len(l))] }

func (m *maker) size() int { return pick(m.Rand, 1, 1, 2, 2, 3, 4, 64) }

func (m *maker) base() api.Base { return api.Base{Cell: m.IntN(3) == 0, N: m.size()} }

// fresh returns a name that the item has not. Other items have it as well.
func (m *maker) fresh() string {
	m.count++
	return "a" + strconv.Itoa(m.count)
}

// anyType returns a type: what a call of it takes, and what comes of it.
func (m *maker) anyType() api.Type {
	if m.IntN(2) == 0 {
		return api.Type{Result: m.base()}
	}
	t := api.Type{Result: api.Base{N: m.size()}}
	for range 1 + m.IntN(3) {
		t.Params = append(t.Params, m.base())
	}
	return t
}

func baseNode(b api.Base) []api.TreeNode {
	kind := api.IntType
	if b.Cell {
		kind = api.CellType
	}
	return node(api.TreeNode{Kind: kind, N: b.N})
}

func typeNode(t api.Type) []api.TreeNode {
	if len(t.Params) == 0 {
		return baseNode(t.Result)
	}
	var l [][]api.TreeNode
	for _, b := range append(slices.Clone(t.Params), t.Result) {
		l = append(l, baseNode(b))
	}
	return node(api.TreeNode{Kind: api.ArrowType}, l...)
}

// declared returns a name of a type.
func declared(kind uint8, text string, t api.Type) name {
	x := name{text: text, kind: kind, typed: true, result: t.Result}
	for _, b := range t.Params {
		x.params = append(x.params, api.Type{Result: b})
	}
	return x
}

func (m *maker) item(text string) []api.TreeNode {
	if m.IntN(4) == 0 {
		t := m.anyType()
		m.items = append(m.items, declared(api.ImportItem, text, t))
		return node(api.TreeNode{Kind: api.ImportItem, Text: text}, typeNode(t))
	}
	x := name{text: text, kind: api.DefItem, typed: true, result: api.Base{N: m.size()}}
	var l [][]api.TreeNode
	for range m.IntN(4) {
		t := m.anyType()
		p := declared(api.ParamNode, m.fresh(), t)
		m.locals = append(m.locals, p)
		l = append(l, node(api.TreeNode{Kind: api.ParamNode, Text: p.text}, typeNode(t)))
		x.params = append(x.params, t)
		x.typed = x.typed && len(t.Params) == 0
	}
	term, _ := m.term(x.result.N)
	l = append(l, baseNode(x.result), term)
	if m.IntN(3) == 0 {
		return node(api.TreeNode{Kind: api.ExportItem, Text: text}, l...)
	}
	m.items = append(m.items, x)
	return node(api.TreeNode{Kind: api.DefItem, Text: text}, l...)
}

// among returns the names in sight of which something is so.
func (m *maker) among(is func(x name) bool) []name {
	l := slices.Concat(m.items, m.locals)
	return slices.DeleteFunc(l, func(x name) bool { return !is(x) })
}

// having returns the names in sight of a base type.
func (m *maker) having(b api.Base) []name {
	return m.among(func(x name) bool { return x.typed && len(x.params) == 0 && x.result == b })
}

// with makes something where further names are in sight.
func (m *maker) with(names []name, make func()) {
	before := len(m.locals)
	m.locals = append(m.locals, names...)
	make()
	m.locals = m.locals[:before]
}

// named returns a node with a name, if one of some names can be there.
func named(m *maker, kind uint8, l []name, kids ...[]api.TreeNode) []api.TreeNode {
	return node(api.TreeNode{Kind: kind, Text: pick(m.Rand, l...).text}, kids...)
}

// leaf returns a term without kids, and whether it has an own size.
func (m *maker) leaf(size int) ([]api.TreeNode, bool) {
	if l := m.having(api.Base{N: size}); len(l) > 0 && m.IntN(2) == 0 {
		return named(m, api.NameNode, l), true
	}
	if l := m.having(api.Base{Cell: true, N: size}); len(l) > 0 && m.IntN(2) == 0 {
		return named(m, api.GetNode, l), true
	}
	labels := m.among(func(x name) bool { return x.kind == api.LabelNode })
	switch {
	case size == 1 && len(labels) > 0 && m.IntN(2) == 0:
		return named(m, api.JumpNode, labels), true
	case size == 1 && m.IntN(2) == 0:
		return node(api.TreeNode{Kind: pick(m.Rand, api.SkipNode, api.HangNode)}), true
	case size == 2 && m.IntN(2) == 0:
		return node(api.TreeNode{Kind: pick(m.Rand, api.TrueNode, api.FalseNode)}), true
	}
	return node(api.TreeNode{Kind: api.NumNode, N: pick(m.Rand, 0, size-1, m.IntN(size))}), false
}

// owned returns a term that has an own size.
func (m *maker) owned() []api.TreeNode {
	size := m.size()
	for range 4 {
		if l, own := m.term(size); own {
			return l
		}
	}
	return node(api.TreeNode{Kind: api.AsNode, N: size}, node(api.TreeNode{Kind: api.NumNode, N: pick(m.Rand, 0, 70, api.MaxNumber)}))
}

// terms returns terms of a size, and whether the first of them that counts, or a later one, has an own size.
func (m *maker) terms(many, size int) (l [][]api.TreeNode, own bool) {
	for range many {
		x, has := m.term(size)
		l, own = append(l, x), own || has
	}
	return l, own
}

// term returns a term of a size, and whether it has an own size.
func (m *maker) term(size int) ([]api.TreeNode, bool) {
	m.left--
	m.deep++
	defer func() { m.deep-- }()
	if m.left <= 0 || m.deep > 18 || m.IntN(6) == 0 {
		return m.leaf(size)
	}
	if m.IntN(3) == 0 {
		if l := m.call(size); l != nil {
			return l, true
		}
	}
	if size == 1 && m.IntN(3) == 0 {
		return m.command(), true
	}
	if size == 2 && m.IntN(3) > 0 {
		return m.test(), true
	}
	return m.passing(size)
}

// passing returns a term of any size.
func (m *maker) passing(size int) ([]api.TreeNode, bool) {
	of := func(kind uint8, many int) ([]api.TreeNode, bool) {
		l, own := m.terms(many, size)
		return node(api.TreeNode{Kind: kind}, l...), own
	}
	switch m.IntN(7) {
	case 0:
		l, _ := m.terms(1+m.IntN(2), 1)
		last, own := m.term(size)
		return node(api.TreeNode{Kind: api.SeqNode}, append(l, last)...), own
	case 1:
		l, own := m.terms(2, size)
		return node(api.TreeNode{Kind: api.IfNode}, append([][]api.TreeNode{m.owned()}, l...)...), own
	case 2:
		return m.cell(size)
	case 3:
		x := api.TreeNode{Kind: api.LabelNode, Text: m.fresh()}
		var first []api.TreeNode
		var own bool
		m.with([]name{{text: x.Text, kind: api.LabelNode}}, func() { first, own = m.term(size) })
		second, other := m.term(size)
		return node(x, first, second), own || other
	case 4:
		return of(api.ChooseNode, 2)
	case 5:
		kid := m.owned()
		return node(api.TreeNode{Kind: api.AsNode, N: size}, kid), true
	}
	return of(pick(m.Rand, api.AddNode, api.SubNode, api.MulNode), 2)
}

// cell returns a NewNode, or a NoticeNode of one that is in sight.
func (m *maker) cell(size int) (l []api.TreeNode, own bool) {
	x := api.TreeNode{Kind: api.NewNode, Text: m.fresh(), N: m.size()}
	x.M = m.IntN(x.N)
	in := []name{{text: x.Text, kind: api.NewNode, typed: true, result: api.Base{Cell: true, N: x.N}}}
	if cells := m.among(func(x name) bool { return x.kind == api.NewNode }); len(cells) > 0 && m.IntN(2) == 0 {
		cell := pick(m.Rand, cells...)
		x, in = api.TreeNode{Kind: api.NoticeNode, Text: cell.text, N: pick(m.Rand, m.IntN(cell.result.N), cell.result.N-1)}, nil
	}
	m.with(in, func() { l, own = m.term(size) })
	return node(x, l), own
}

// command returns a WhileNode or a PutNode.
func (m *maker) command() []api.TreeNode {
	if l := m.among(func(x name) bool { return x.typed && len(x.params) == 0 && x.result.Cell }); len(l) > 0 && m.IntN(3) > 0 {
		cell := pick(m.Rand, l...)
		kid, _ := m.term(cell.result.N)
		return node(api.TreeNode{Kind: api.PutNode, Text: cell.text}, kid)
	}
	kid, _ := m.term(1)
	return node(api.TreeNode{Kind: api.WhileNode}, m.owned(), kid)
}

// test returns an operation of the size 2.
func (m *maker) test() []api.TreeNode {
	switch kind := pick(m.Rand, api.OrNode, api.AndNode, api.NotNode, api.EqNode, api.LessNode); kind {
	case api.NotNode:
		kid, _ := m.term(2)
		return node(api.TreeNode{Kind: kind}, kid)
	case api.EqNode, api.LessNode:
		size := m.size()
		for range 4 {
			if l, own := m.terms(2, size); own {
				return node(api.TreeNode{Kind: kind}, l...)
			}
		}
		l := [][]api.TreeNode{node(api.TreeNode{Kind: api.NumNode}), m.owned()}
		if m.IntN(2) == 0 {
			slices.Reverse(l)
		}
		return node(api.TreeNode{Kind: kind}, l...)
	default:
		l, _ := m.terms(2, 2)
		return node(api.TreeNode{Kind: kind}, l...)
	}
}

// call returns a call from which a size comes, if there can be one.
func (m *maker) call(size int) []api.TreeNode {
	l := m.among(func(x name) bool { return len(x.params) > 0 && x.result == api.Base{N: size} })
	if len(l) == 0 {
		return nil
	}
	x := pick(m.Rand, l...)
	var args [][]api.TreeNode
	for _, p := range x.params {
		args = append(args, m.arg(p))
	}
	return node(api.TreeNode{Kind: api.CallNode, Text: x.text}, args...)
}

// arg returns an argument for a param of a type.
func (m *maker) arg(p api.Type) (arg []api.TreeNode) {
	same := m.among(func(x name) bool {
		return x.typed && x.result == p.Result && slices.EqualFunc(x.params, p.Params, func(t api.Type, b api.Base) bool {
			return t.Result == b
		})
	})
	integer := len(p.Params) == 0 && !p.Result.Cell
	if len(same) > 0 && !integer && m.IntN(2) == 0 {
		return named(m, api.NameNode, same)
	}
	first, _ := m.term(p.Result.N)
	if integer {
		return first
	}
	if len(p.Params) == 0 {
		v := m.fresh()
		m.with([]name{{text: v, kind: api.BindNode, typed: true, result: api.Base{N: p.Result.N}}}, func() {
			last, _ := m.term(1)
			arg = node(api.TreeNode{Kind: api.ObjectNode}, first, node(api.TreeNode{Kind: api.BindNode, Text: v}), last)
		})
		return arg
	}
	var binds []name
	var kids [][]api.TreeNode
	for _, b := range p.Params {
		binds = append(binds, name{text: m.fresh(), kind: api.BindNode, typed: true, result: b})
		kids = append(kids, node(api.TreeNode{Kind: api.BindNode, Text: binds[len(binds)-1].text}))
	}
	m.with(binds, func() {
		last, _ := m.term(p.Result.N)
		arg = node(api.TreeNode{Kind: api.FnNode}, append(kids, last)...)
	})
	return arg
}

// alikeKinds are kinds that can stand for each other.
func alikeKinds(kind uint8) []uint8 {
	for _, l := range [][]uint8{
		{api.DefItem, api.ExportItem}, {api.IntType, api.CellType}, {api.TrueNode, api.FalseNode, api.SkipNode, api.HangNode}, {api.JumpNode, api.GetNode, api.NameNode},
		{api.WhileNode, api.ChooseNode, api.OrNode, api.AndNode, api.EqNode, api.LessNode, api.AddNode, api.SubNode, api.MulNode, api.SeqNode},
	} {
		if slices.Contains(l, kind) {
			return l
		}
	}
	return []uint8{kind}
}

// flawed returns a tree that is right still, with some nodes that became others.
func flawed(r *rand.Rand, u api.Tree, many int) api.Tree {
	for range many {
		l := slices.Clone(u.Nodes)
		n := r.IntN(len(l))
		x := &l[n]
		switch r.IntN(5) {
		case 0:
			if x.Text != "" {
				x.Text = pick(r, pick(r, u.Nodes...).Text, pick(r, u.Nodes...).Text, "zz")
			}
		case 1:
			x.N = pick(r, 0, 1, 2, 3, 4, 64, 65)
		case 2:
			x.M = pick(r, 0, 1, 2, 3, 63, 64)
		case 3:
			x.Kind = pick(r, alikeKinds(x.Kind)...)
		case 4:
			sub, _ := parse.Sub(u, r.IntN(len(l)))
			if v, e := parse.Graft(u, n, sub); e == api.OK && len(v.Nodes) < 300 {
				l = v.Nodes
			}
		}
		if v := (api.Tree{Nodes: l}); parse.Check(v) == api.OK {
			u = v
		}
	}
	return u
}
