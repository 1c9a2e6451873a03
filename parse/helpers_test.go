package parse

import (
	"math/rand/v2"
	"slices"
	"strconv"
	"strings"
	"testing"

	"riposte/api"
)

// tree returns the tree of a text that has one.
func tree(t *testing.T, s string) api.Tree {
	t.Helper()
	x, at, e := Parse(s)
	if e != api.OK || at != 0 {
		t.Fatalf("Parse of %q: %d, %v", s, at, e)
	}
	return x
}

// node returns a node with some kids, with all their nodes.
func node(x api.TreeNode, kids ...[]api.TreeNode) []api.TreeNode {
	l := slices.Concat(append([][]api.TreeNode{{x}}, kids...)...)
	l[0].Size = len(l)
	return l
}

// of returns a node of a kind, without fields.
func of(kind uint8, kids ...[]api.TreeNode) []api.TreeNode {
	return node(api.TreeNode{Kind: kind}, kids...)
}

// same reports whether two trees are the same but for places.
func same(a, b api.Tree) bool {
	return slices.EqualFunc(a.Nodes, b.Nodes, func(x, y api.TreeNode) bool {
		x.At, y.At = 0, 0
		return x == y
	})
}

// source returns the same numbers in each run.
func source(n uint64) *rand.Rand { return rand.New(rand.NewPCG(n, 2)) }

// maker makes a random program as the grammar says, from left to right: its text, and its nodes.
type maker struct {
	*rand.Rand
	text strings.Builder
	last string // the token before
	left int    // how many tokens may come before all becomes short
	deep int    // how many terms are around
}

// program returns a random program of about some tokens.
func program(r *rand.Rand, tokens int) (string, api.Tree) {
	m := &maker{Rand: r, left: tokens}
	m.gap(false)
	var items [][]api.TreeNode
	for range m.IntN(5) {
		items = append(items, m.item())
	}
	m.gap(false)
	return m.text.String(), api.Tree{Nodes: of(api.ProgramNode, items...)}
}

// gap writes what may stand between tokens.
func (m *maker) gap(needed bool) {
	l := []string{" ", "\n", "~\n", " ~a; := def\n ", "  "}
	for needed || m.IntN(8) == 0 {
		m.text.WriteString(l[m.IntN(len(l))])
		needed = false
	}
}

// token writes a token, and returns its place.
func (m *maker) token(s string) int {
	wordy := func(b byte) bool { return 'a' <= b && b <= 'z' || 'A' <= b && b <= 'Z' || '0' <= b && b <= '9' }
	if m.last != "" {
		m.gap(wordy(m.last[len(m.last)-1]) && wordy(s[0]) || m.last == ":" && s == "=")
	}
	at := m.text.Len()
	m.text.WriteString(s)
	m.last = s
	m.left--
	return at
}

// more reports whether something that may come comes: once in n times, and less often deep inside.
func (m *maker) more(n int) bool { return m.left > 0 && m.deep < 25 && m.IntN(n+m.deep/3) == 0 }

func (m *maker) name() (string, int) {
	l := []string{"a", "b", "f", "xY9", "ifs", "abcdefghijkl"}
	s := l[m.IntN(len(l))]
	return s, m.token(s)
}

func (m *maker) number() (int, int) {
	l := []int{0, 1, 2, 3, 10, 64, 1000000}
	n := l[m.IntN(len(l))]
	return n, m.token(strconv.Itoa(n))
}

// named writes a name: a node that it tells of.
func (m *maker) named(kind uint8) api.TreeNode {
	s, at := m.name()
	return api.TreeNode{Kind: kind, Text: s, At: at}
}

// declared writes a sign or a keyword, and a name.
func (m *maker) declared(kind uint8, sign string) api.TreeNode {
	at := m.token(sign)
	x := m.named(kind)
	x.At = at
	return x
}

// row writes from 1 to 4 of the same, with commas between them.
func (m *maker) row(one func() []api.TreeNode) [][]api.TreeNode {
	l := [][]api.TreeNode{one()}
	for len(l) < 4 && m.more(3) {
		m.token(",")
		l = append(l, one())
	}
	return l
}

func (m *maker) item() []api.TreeNode {
	if m.IntN(3) == 0 {
		x := m.declared(api.ImportItem, "import")
		m.token(":")
		kid := m.anyType()
		m.token(";")
		return node(x, kid)
	}
	kind, word := api.DefItem, "def"
	if m.IntN(2) == 0 {
		kind, word = api.ExportItem, "export"
	}
	x := m.declared(kind, word)
	m.token("(")
	var kids [][]api.TreeNode
	if m.IntN(2) == 0 {
		kids = m.row(func() []api.TreeNode {
			p := m.named(api.ParamNode)
			m.token(":")
			return node(p, m.anyType())
		})
	}
	m.token(")")
	m.token(":")
	kids = append(kids, m.base())
	m.token("=")
	kids = append(kids, m.term())
	m.token(";")
	return node(x, kids...)
}

func (m *maker) anyType() []api.TreeNode {
	if m.IntN(2) == 0 {
		return m.base()
	}
	at := m.token("(")
	kids := m.row(m.base)
	m.token(")")
	m.token("->")
	return node(api.TreeNode{Kind: api.ArrowType, At: at}, append(kids, m.base())...)
}

func (m *maker) base() []api.TreeNode {
	x := api.TreeNode{Kind: api.IntType}
	switch m.IntN(4) {
	case 0:
		x.At, x.N = m.token("com"), 1
	case 1:
		x.At, x.N = m.token("bool"), 2
	case 2:
		x.At = m.token("int")
		x.N, _ = m.number()
	case 3:
		x.Kind, x.At = api.CellType, m.token("cell")
		x.N, _ = m.number()
	}
	return node(x)
}

func (m *maker) term() []api.TreeNode {
	m.deep++
	defer func() { m.deep-- }()
	l := [][]api.TreeNode{m.first()}
	x := api.TreeNode{Kind: api.SeqNode}
	for m.more(2) {
		at := m.token(";")
		if len(l) == 1 {
			x.At = at
		}
		l = append(l, m.first())
	}
	if len(l) == 1 {
		return l[0]
	}
	return node(x, l...)
}

// kids writes firsts, each behind a sign or a keyword, and returns the place of the first of these too.
func (m *maker) kids(signs ...string) (at int, l [][]api.TreeNode) {
	for i, s := range signs {
		place := m.token(s)
		if i == 0 {
			at = place
		}
		l = append(l, m.first())
	}
	return at, l
}

// behind writes firsts behind what is written of a node.
func (m *maker) behind(x api.TreeNode, signs ...string) []api.TreeNode {
	_, kids := m.kids(signs...)
	return node(x, kids...)
}

func (m *maker) first() []api.TreeNode {
	m.deep++
	defer func() { m.deep-- }()
	if !m.more(2) {
		return m.or()
	}
	switch m.IntN(7) {
	case 0:
		at, kids := m.kids("if", "then", "else")
		return node(api.TreeNode{Kind: api.IfNode, At: at}, kids...)
	case 1:
		at, kids := m.kids("while", "do")
		return node(api.TreeNode{Kind: api.WhileNode, At: at}, kids...)
	case 2:
		x := m.declared(api.NewNode, "new")
		m.token(":")
		x.N, _ = m.number()
		m.token(":=")
		x.M, _ = m.number()
		return m.behind(x, "in")
	case 3:
		return m.behind(m.declared(api.LabelNode, "label"), "in", "else")
	case 4:
		x := m.declared(api.NoticeNode, "notice")
		m.token(":=")
		x.N, _ = m.number()
		return m.behind(x, "in")
	case 5:
		at, kids := m.kids("choose", "else")
		return node(api.TreeNode{Kind: api.ChooseNode, At: at}, kids...)
	}
	return m.behind(m.named(api.PutNode), ":=")
}

// pairs writes operands with operations between them, most times at most.
func (m *maker) pairs(most int, operand func() []api.TreeNode, signs string, kinds ...uint8) []api.TreeNode {
	l := operand()
	for ; most > 0 && m.more(4); most-- {
		n := m.IntN(len(kinds))
		x := api.TreeNode{Kind: kinds[n], At: m.token(strings.Fields(signs)[n])}
		right := operand()
		l = node(x, l, right)
	}
	return l
}

func (m *maker) or() []api.TreeNode {
	return m.pairs(5, m.and, "or", api.OrNode)
}

func (m *maker) and() []api.TreeNode {
	return m.pairs(5, m.not, "and", api.AndNode)
}

func (m *maker) not() []api.TreeNode {
	if m.more(6) {
		x := api.TreeNode{Kind: api.NotNode, At: m.token("not")}
		return node(x, m.not())
	}
	return m.pairs(1, m.sum, "= <", api.EqNode, api.LessNode)
}

func (m *maker) sum() []api.TreeNode {
	return m.pairs(5, m.product, "+ -", api.AddNode, api.SubNode)
}

func (m *maker) product() []api.TreeNode {
	return m.pairs(5, m.cast, "*", api.MulNode)
}

func (m *maker) cast() []api.TreeNode {
	l := m.atom()
	for m.more(6) {
		x := api.TreeNode{Kind: api.AsNode, At: m.token("as")}
		x.N, _ = m.number()
		l = node(x, l)
	}
	return l
}

func (m *maker) atom() []api.TreeNode {
	if m.more(4) {
		m.token("(")
		l := m.term()
		m.token(")")
		return l
	}
	words := map[int]string{0: "true", 1: "false", 2: "skip", 3: "hang"}
	switch n := m.IntN(10); n {
	case 0, 1, 2, 3:
		return node(api.TreeNode{Kind: api.TrueNode + uint8(n), At: m.token(words[n])})
	case 4:
		return node(m.declared(api.JumpNode, "jump"))
	case 5:
		return node(m.declared(api.GetNode, "!"))
	case 6:
		x := api.TreeNode{Kind: api.NumNode}
		x.N, x.At = m.number()
		return node(x)
	}
	x := m.named(api.NameNode)
	if !m.more(2) {
		return node(x)
	}
	x.Kind = api.CallNode
	m.token("(")
	kids := m.row(m.arg)
	m.token(")")
	return node(x, kids...)
}

func (m *maker) arg() []api.TreeNode {
	switch m.IntN(4) {
	case 0:
		x := api.TreeNode{Kind: api.FnNode, At: m.token("fn")}
		m.token("(")
		kids := m.row(func() []api.TreeNode { return node(m.named(api.BindNode)) })
		m.token(")")
		return node(x, append(kids, m.first())...)
	case 1:
		x := api.TreeNode{Kind: api.ObjectNode, At: m.token("{")}
		_, get := m.kids("get")
		m.token(";")
		m.token("put")
		bind := node(m.named(api.BindNode))
		_, put := m.kids(".")
		m.token("}")
		return node(x, get[0], bind, put[0])
	}
	return m.term()
}
