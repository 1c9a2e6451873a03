package parse

import (
	"slices"
	"strconv"
	"strings"

	"riposte/api"
	"riposte/lex"
)

// Print returns the text of a tree.
func Print(t api.Tree) (string, api.Errno) { return Text(t, 0) }

// Text returns the text of a node.
func Text(t api.Tree, n int) (string, api.Errno) {
	return tell(t, n, func(l []api.TreeNode, n int) (string, api.Errno) {
		if l[n].Kind != api.ProgramNode {
			return tight(t, n)
		}
		var b strings.Builder
		for item := range kidsOf(l, n) {
			s, e := tight(t, item)
			if e != api.OK {
				return "", e
			}
			b.WriteString(s + "\n")
		}
		if b.Len() > api.MaxText {
			return "", api.ErrLimit
		}
		return b.String(), api.OK
	})
}

// tight returns the text of a node that is no program.
func tight(t api.Tree, n int) (string, api.Errno) {
	s := sheet{Tree: t}
	s.write(n)
	return lex.Tight(s.tokens)
}

// sheet is a tree that is printed, as tokens.
type sheet struct {
	api.Tree
	tokens []api.Token
}

// signs writes signs and keywords.
func (s *sheet) signs(l ...string) {
	for _, x := range l {
		kind := api.TokSign
		if 'a' <= x[0] && x[0] <= 'z' {
			kind = api.TokWord
		}
		s.tokens = append(s.tokens, api.Token{Kind: kind, Text: x})
	}
}

// name writes a name.
func (s *sheet) name(x string) {
	s.tokens = append(s.tokens, api.Token{Kind: api.TokName, Text: x})
}

// number writes a number.
func (s *sheet) number(n int) {
	s.tokens = append(s.tokens, api.Token{Kind: api.TokNumber, Text: strconv.Itoa(n)})
}

// list writes nodes in brackets, with commas between them.
func (s *sheet) list(l []int) {
	s.signs("(")
	for i, n := range l {
		if i > 0 {
			s.signs(",")
		}
		s.write(n)
	}
	s.signs(")")
}

// write writes a node as it stands where all of its kind can stand.
func (s *sheet) write(n int) {
	x, kids := s.Nodes[n], slices.Collect(kidsOf(s.Nodes, n))
	last := len(kids) - 1
	switch x.Kind {
	case api.ImportItem:
		s.signs("import")
		s.name(x.Text)
		s.signs(":")
		s.write(kids[0])
		s.signs(";")
	case api.DefItem, api.ExportItem:
		s.signs(tokenOf[x.Kind])
		s.name(x.Text)
		s.list(kids[:last-1])
		s.signs(":")
		s.write(kids[last-1])
		s.signs("=")
		s.write(kids[last])
		s.signs(";")
	case api.ParamNode:
		s.name(x.Text)
		s.signs(":")
		s.write(kids[0])
	case api.IntType, api.CellType:
		s.base(x)
	case api.ArrowType:
		s.list(kids[:last])
		s.signs("->")
		s.write(kids[last])
	case api.FnNode:
		s.signs("fn")
		s.list(kids[:last])
		s.operand(kids[last], api.IfNode)
	case api.ObjectNode:
		s.signs("{")
		s.firsts(kids[:1], "get")
		s.signs(";", "put")
		s.write(kids[1])
		s.firsts(kids[2:], ".")
		s.signs("}")
	case api.BindNode:
		s.name(x.Text)
	default:
		s.term(x, kids)
	}
}

// base writes an IntType or a CellType.
func (s *sheet) base(x api.TreeNode) {
	switch {
	case x.Kind == api.CellType:
		s.signs("cell")
		s.number(x.N)
	case x.N == 1:
		s.signs("com")
	case x.N == 2:
		s.signs("bool")
	default:
		s.signs("int")
		s.number(x.N)
	}
}

// term writes a term with its kids.
func (s *sheet) term(x api.TreeNode, kids []int) {
	switch x.Kind {
	case api.SeqNode:
		s.operand(kids[0], api.IfNode)
		for _, kid := range kids[1:] {
			s.firsts([]int{kid}, ";")
		}
	case api.IfNode:
		s.firsts(kids, "if", "then", "else")
	case api.WhileNode:
		s.firsts(kids, "while", "do")
	case api.ChooseNode:
		s.firsts(kids, "choose", "else")
	case api.NewNode, api.LabelNode, api.NoticeNode, api.PutNode:
		s.declaration(x, kids)
	case api.NumNode:
		s.number(x.N)
	case api.TrueNode, api.FalseNode, api.SkipNode, api.HangNode:
		s.signs(tokenOf[x.Kind])
	case api.JumpNode, api.GetNode:
		s.signs(tokenOf[x.Kind])
		s.name(x.Text)
	case api.NameNode:
		s.name(x.Text)
	case api.CallNode:
		s.name(x.Text)
		s.list(kids)
	default:
		s.operation(x, kids)
	}
}

// declaration writes a term with a name, and firsts behind it.
func (s *sheet) declaration(x api.TreeNode, kids []int) {
	if x.Kind != api.PutNode {
		s.signs(tokenOf[x.Kind])
	}
	s.name(x.Text)
	switch x.Kind {
	case api.NewNode:
		s.signs(":")
		s.number(x.N)
		s.signs(":=")
		s.number(x.M)
		s.firsts(kids, "in")
	case api.LabelNode:
		s.firsts(kids, "in", "else")
	case api.NoticeNode:
		s.signs(":=")
		s.number(x.N)
		s.firsts(kids, "in")
	case api.PutNode:
		s.firsts(kids, ":=")
	}
}

// operation writes a term of a kind from OrNode to AsNode.
func (s *sheet) operation(x api.TreeNode, kids []int) {
	switch x.Kind {
	case api.OrNode:
		s.pair(x, kids, api.OrNode, api.AndNode)
	case api.AndNode:
		s.pair(x, kids, api.AndNode, api.NotNode)
	case api.NotNode:
		s.signs("not")
		s.operand(kids[0], api.NotNode)
	case api.EqNode, api.LessNode:
		s.pair(x, kids, api.AddNode, api.AddNode)
	case api.AddNode, api.SubNode:
		s.pair(x, kids, api.AddNode, api.MulNode)
	case api.MulNode:
		s.pair(x, kids, api.MulNode, api.AsNode)
	case api.AsNode:
		s.operand(kids[0], api.AsNode)
		s.signs("as")
		s.number(x.N)
	}
}

// pair writes two terms with an operation between them.
func (s *sheet) pair(x api.TreeNode, kids []int, left, right uint8) {
	s.operand(kids[0], left)
	s.signs(tokenOf[x.Kind])
	s.operand(kids[1], right)
}

// firsts writes firsts of the grammar, each behind a sign or a keyword.
func (s *sheet) firsts(kids []int, signs ...string) {
	for i, kid := range kids {
		s.signs(signs[i])
		s.operand(kid, api.IfNode)
	}
}

// operand writes a term, with brackets if its kind is before the least one that can stand there. Kinds of terms stand in the order of the grammar: what one can be without brackets, all behind it can.
func (s *sheet) operand(n int, least uint8) {
	if s.Nodes[n].Kind >= least {
		s.write(n)
		return
	}
	s.signs("(")
	s.write(n)
	s.signs(")")
}
