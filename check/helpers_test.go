package check

import (
	"math/rand/v2"
	"slices"
	"strings"
	"testing"

	"riposte/api"
	"riposte/parse"
)

// tree returns the tree of a text that has one.
func tree(t *testing.T, s string) api.Tree {
	t.Helper()
	u, at, e := parse.Parse(s)
	if e != api.OK {
		t.Fatalf("Parse of %q: %d, %v", s, at, e)
	}
	return u
}

// marked returns the tree of a text, and the nodes that are told by the tokens behind each ^.
func marked(t *testing.T, s string) (api.Tree, []int) {
	t.Helper()
	pieces := strings.Split(s, "^")
	u := tree(t, strings.Join(pieces, ""))
	var l []int
	at := 0
	for _, piece := range pieces[:len(pieces)-1] {
		at += len(piece)
		n := slices.IndexFunc(u.Nodes[1:], func(x api.TreeNode) bool { return x.At == at })
		if n < 0 {
			t.Fatalf("no node at %d of %q", at, s)
		}
		l = append(l, n+1)
	}
	return u, l
}

// names returns the names of some nodes.
func names(u api.Tree, nodes []int) []string {
	var l []string
	for _, n := range nodes {
		l = append(l, u.Nodes[n].Text)
	}
	return l
}

// typed returns the type that stands in an import of a text.
func typed(t *testing.T, s string) api.Type {
	t.Helper()
	typed, e := Type(tree(t, "import a:"+s+";"), 1)
	if e != api.OK {
		t.Fatalf("Type of %s: %v", s, e)
	}
	return typed
}

// alike reports whether two types are the same; nil and empty Params are.
func alike(a, b api.Type) bool { return a.Result == b.Result && slices.Equal(a.Params, b.Params) }

// node returns a node with some kids, with all their nodes.
func node(x api.TreeNode, kids ...[]api.TreeNode) []api.TreeNode {
	l := slices.Concat(append([][]api.TreeNode{{x}}, kids...)...)
	l[0].Size = len(l)
	return l
}

// source returns the same numbers in each run.
func source(n uint64) *rand.Rand { return rand.New(rand.NewPCG(n, 3)) }

// flawedTrees are trees with their errors.
func flawedTrees() map[api.Errno][]api.Tree {
	deep := node(api.TreeNode{Kind: api.SkipNode})
	for range 58 {
		deep = node(api.TreeNode{Kind: api.NotNode}, deep)
	}
	com := node(api.TreeNode{Kind: api.IntType, N: 1})
	item := node(api.TreeNode{Kind: api.ExportItem, Text: "m"}, com, deep)
	wrong := node(api.TreeNode{Kind: api.ExportItem, Text: "if"}, com, node(api.TreeNode{Kind: api.SkipNode}))
	items := slices.Repeat([][]api.TreeNode{node(api.TreeNode{Kind: api.ImportItem, Text: "a"}, com)}, 25)
	program := api.TreeNode{Kind: api.ProgramNode}
	return map[api.Errno][]api.Tree{
		api.ErrForm:  {{}, {Nodes: make([]api.TreeNode, 900)}, {Nodes: com}, {Nodes: node(program, wrong)}},
		api.ErrLimit: {{Nodes: make([]api.TreeNode, 901)}, {Nodes: node(program, node(api.TreeNode{Kind: api.ExportItem, Text: "m"}, com, node(api.TreeNode{Kind: api.NotNode}, deep)))}, {Nodes: node(program, items...)}, {Nodes: node(program, item, items[0], node(api.TreeNode{Kind: api.ExportItem, Text: "n"}, com, node(api.TreeNode{Kind: api.NotNode}, deep)))}},
	}
}

// answer is what a function told: its error, and whether all other results are zero values.
type answer struct {
	e    api.Errno
	zero bool
}

// answers returns what the functions with a node tell, by their names.
func answers(u api.Tree, n int) map[string]answer {
	at, item := Item(u, n)
	d, means := Means(u, n)
	nodes, uses := Uses(u, n)
	typed, typeError := Type(u, n)
	given, size := Size(u, n)
	seen, sight := Sight(u, n)
	bits, effects := Effects(u, n)
	items, reach := Reach(u, n)
	renamed, rename := Rename(u, n, "zz")
	return map[string]answer{
		"Item": {item, at == 0}, "Means": {means, d == 0}, "Uses": {uses, nodes == nil}, "Type": {typeError, alike(typed, api.Type{})}, "Size": {size, given == 0},
		"Sight": {sight, seen == nil}, "Effects": {effects, bits == 0}, "Reach": {reach, items == nil}, "Rename": {rename, renamed.Nodes == nil},
	}
}

// R1, R2: the errors of a tree come first, then those of a node that there is not; also where the program has errors.
func TestFirstErrors(t *testing.T) {
	for e, l := range flawedTrees() {
		for i, u := range l {
			for _, n := range []int{0, 1, -1, len(u.Nodes)} {
				for name, x := range answers(u, n) {
					if x != (answer{e, true}) {
						t.Errorf("%s of the flawed tree %d, %v: %v", name, i, e, x)
					}
				}
			}
			n, f := Program(u)
			a, ids, g := Arena(u, "m", true)
			if n != 0 || f != e || len(a.Ids) != 0 || a.Root != (api.Base{}) || a.Jumps || ids != nil || g != e {
				t.Errorf("the flawed tree %d, %v: Program: %d, %v; Arena: %v, %v, %v", i, e, n, f, a, ids, g)
			}
		}
	}
	for _, s := range []string{"", "import a:com;", "export m():com=x;", "export m():com=1;", "import a:com;import a:com;"} {
		u := tree(t, s)
		for _, n := range []int{-1, len(u.Nodes), 1 << 62, -1 << 62} {
			for name, x := range answers(u, n) {
				if x != (answer{api.ErrRange, true}) {
					t.Errorf("%s of %q, %d: %v", name, s, n, x)
				}
			}
		}
	}
}
