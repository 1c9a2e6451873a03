package core

import (
	"strconv"

	"riposte/api"
)

// writer writes a tree, one node after the other, and knows the names of the identifiers and of the labels that are in sight.
type writer struct {
	api.Tree
	ids, labels []string
	count       int // names
}

// programFor returns a program whose export main becomes a term of an arena.
func programFor(a api.Arena, t api.Term) api.Tree {
	w := &writer{}
	w.node(api.TreeNode{Kind: api.ProgramNode}, func() {
		for i, id := range a.Ids {
			name := "x" + strconv.Itoa(i+1)
			w.ids = append(w.ids, name)
			w.node(api.TreeNode{Kind: api.ImportItem, Text: name}, func() { w.typed(id) })
		}
		w.node(api.TreeNode{Kind: api.ExportItem, Text: "main"}, func() { w.base(a.Root) }, func() { w.term(t) })
	})
	return w.Tree
}

// node writes a node, and its kids.
func (w *writer) node(x api.TreeNode, kids ...func()) {
	at := len(w.Nodes)
	w.Nodes = append(w.Nodes, x)
	for _, kid := range kids {
		kid()
	}
	w.Nodes[at].Size = len(w.Nodes) - at
}

func (w *writer) typed(t api.Type) {
	if len(t.Params) == 0 {
		w.base(t.Result)
		return
	}
	w.node(api.TreeNode{Kind: api.ArrowType}, func() {
		for _, b := range t.Params {
			w.base(b)
		}
		w.base(t.Result)
	})
}

func (w *writer) base(b api.Base) {
	kind := api.IntType
	if b.Cell {
		kind = api.CellType
	}
	w.node(api.TreeNode{Kind: kind, N: b.N})
}

// term writes the node that becomes a term.
func (w *writer) term(t api.Term) {
	switch t.Kind {
	case api.TermNum:
		w.node(api.TreeNode{Kind: api.AsNode, N: t.M}, func() { w.node(api.TreeNode{Kind: api.NumNode, N: t.N}) })
	case api.TermNew:
		name := w.fresh("c")
		w.node(api.TreeNode{Kind: api.NewNode, Text: name, N: t.N, M: t.M}, func() { w.with(&w.ids, name, t.Kids[0]) })
	case api.TermLabel:
		name := w.fresh("l")
		w.node(api.TreeNode{Kind: api.LabelNode, Text: name}, func() { w.with(&w.labels, name, t.Kids[0]) }, w.kid(t, 1))
	case api.TermJump:
		w.node(api.TreeNode{Kind: api.JumpNode, Text: w.labels[len(w.labels)-1-t.N]})
	case api.TermObject:
		w.node(api.TreeNode{Kind: api.ObjectNode}, w.kid(t, 0), func() { w.becomes(t.Kids[1]) })
	case api.TermOp:
		w.node(api.TreeNode{Kind: operationKind(t.N)}, w.kid(t, 0), w.kid(t, 1))
	default:
		w.plain(t)
	}
}

// plain writes a node that has the same fields and kids as the term.
func (w *writer) plain(t api.Term) {
	x := api.TreeNode{Kind: plainKind(t), N: t.N}
	if t.Id > 0 {
		x.Text = w.ids[t.Id-1]
	}
	var kids []func()
	for k := range t.Kids {
		kids = append(kids, w.kid(t, k))
	}
	w.node(x, kids...)
}

// becomes writes what an object does when it is put.
func (w *writer) becomes(t api.Term) {
	name := w.fresh("v")
	w.node(api.TreeNode{Kind: api.BindNode, Text: name})
	w.with(&w.ids, name, t)
}

// kid returns what writes a kid of a term.
func (w *writer) kid(t api.Term, k int) func() {
	return func() { w.term(t.Kids[k]) }
}

// with writes a term for which one more name is in sight.
func (w *writer) with(names *[]string, name string, t api.Term) {
	*names = append(*names, name)
	w.term(t)
	*names = (*names)[:len(*names)-1]
}

// fresh returns the next name.
func (w *writer) fresh(letter string) string {
	w.count++
	return letter + strconv.Itoa(w.count)
}

// operationKind returns the kind of the nodes that become an operation.
func operationKind(op int) uint8 {
	return map[int]uint8{api.OpAdd: api.AddNode, api.OpSub: api.SubNode, api.OpMul: api.MulNode, api.OpEq: api.EqNode, api.OpLess: api.LessNode}[op]
}

// plainKind returns the kind of the nodes that become a term which has the same fields and kids.
func plainKind(t api.Term) uint8 {
	kind, ok := map[uint8]uint8{
		api.TermGet:    api.GetNode,
		api.TermPut:    api.PutNode,
		api.TermAs:     api.AsNode,
		api.TermSeq:    api.SeqNode,
		api.TermIf:     api.IfNode,
		api.TermWhile:  api.WhileNode,
		api.TermChoose: api.ChooseNode,
		api.TermNotice: api.NoticeNode,
		api.TermHang:   api.HangNode,
	}[t.Kind]
	switch {
	case ok:
		return kind
	case len(t.Kids) > 0:
		return api.CallNode
	}
	return api.NameNode
}
