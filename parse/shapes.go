package parse

import (
	"slices"

	"riposte/api"
	"riposte/lex"
)

// kinds are all kinds from one to another one. The kinds of a term, of a base and so on stand together in api; none is 0.
type kinds struct{ from, to uint8 }

// have reports whether a kind is among some.
func (k kinds) have(kind uint8) bool { return k.from <= kind && kind <= k.to }

// shape is what a node of a kind has: which fields, and which kids: some of the same kinds, and others behind them.
type shape struct {
	text, n, m bool
	row        kinds
	least      int
	then       []kinds
}

// shapeOf returns the shape of a kind, and whether there is this kind.
func shapeOf(kind uint8) (shape, bool) {
	base, anyType := kinds{api.IntType, api.CellType}, kinds{api.IntType, api.ArrowType}
	term, arg := kinds{api.SeqNode, api.CallNode}, kinds{api.SeqNode, api.ObjectNode}
	param, bind := kinds{api.ParamNode, api.ParamNode}, kinds{api.BindNode, api.BindNode}
	switch kind {
	case api.ProgramNode:
		return shape{row: kinds{api.ImportItem, api.ExportItem}}, true
	case api.ImportItem, api.ParamNode:
		return shape{text: true, then: []kinds{anyType}}, true
	case api.DefItem, api.ExportItem:
		return shape{text: true, row: param, then: []kinds{base, term}}, true
	case api.IntType, api.CellType, api.NumNode:
		return shape{n: true}, true
	case api.ArrowType:
		return shape{row: base, least: 2}, true
	case api.SeqNode:
		return shape{row: term, least: 2}, true
	case api.IfNode:
		return shape{then: []kinds{term, term, term}}, true
	case api.WhileNode, api.ChooseNode, api.OrNode, api.AndNode, api.EqNode, api.LessNode, api.AddNode, api.SubNode, api.MulNode:
		return shape{then: []kinds{term, term}}, true
	case api.NewNode:
		return shape{text: true, n: true, m: true, then: []kinds{term}}, true
	case api.LabelNode:
		return shape{text: true, then: []kinds{term, term}}, true
	case api.NoticeNode:
		return shape{text: true, n: true, then: []kinds{term}}, true
	case api.PutNode:
		return shape{text: true, then: []kinds{term}}, true
	case api.NotNode:
		return shape{then: []kinds{term}}, true
	case api.AsNode:
		return shape{n: true, then: []kinds{term}}, true
	case api.TrueNode, api.FalseNode, api.SkipNode, api.HangNode:
		return shape{}, true
	case api.JumpNode, api.GetNode, api.NameNode, api.BindNode:
		return shape{text: true}, true
	case api.CallNode:
		return shape{text: true, row: arg, least: 1}, true
	case api.FnNode:
		return shape{row: bind, least: 1, then: []kinds{term}}, true
	case api.ObjectNode:
		return shape{then: []kinds{term, bind, term}}, true
	}
	return shape{}, false
}

// Check returns the error of a tree.
func Check(t api.Tree) api.Errno {
	if len(t.Nodes) > api.MaxNodes {
		return api.ErrLimit
	}
	ups, ok := upsOf(t.Nodes)
	if !ok || !right(t.Nodes) {
		return api.ErrForm
	}
	items := 0
	for range kidsOf(t.Nodes, 0) {
		items++
	}
	if depthOf(ups) > api.MaxDepth || items > api.MaxItems {
		return api.ErrLimit
	}
	return api.OK
}

// right reports whether nodes whose Sizes are right are a right tree.
func right(l []api.TreeNode) bool {
	var names []api.Token
	for n, x := range l {
		if !fits(l, n) {
			return false
		}
		if x.Text != "" {
			names = append(names, api.Token{Kind: api.TokName, Text: x.Text})
		}
	}
	_, e := lex.Tight(names) // a tree has no more names than MaxTokens; if their text is too long they are names
	return l[0].Kind == api.ProgramNode && e != api.ErrArg
}

// fits reports whether a node has the fields and the kids of its kind, if its Text is a name.
func fits(l []api.TreeNode, n int) bool {
	x := l[n]
	s, ok := shapeOf(x.Kind)
	if !ok || s.text != (x.Text != "") || !numberFits(x.N, s.n) || !numberFits(x.M, s.m) {
		return false
	}
	kids := slices.Collect(kidsOf(l, n))
	row := len(kids) - len(s.then)
	if row < s.least {
		return false
	}
	for i, kid := range kids {
		want := s.row
		if i >= row {
			want = s.then[i-row]
		}
		if !want.have(l[kid].Kind) {
			return false
		}
	}
	return true
}

// numberFits reports whether a field is a number, or 0 if its kind has no such field.
func numberFits(n int, has bool) bool { return n == 0 || has && 0 < n && n <= api.MaxNumber }
