package parse

import (
	"math"
	"regexp"
	"slices"
	"strings"
	"testing"

	"riposte/api"
)

// flawedTrees yields trees with their errors, each error of several first.
func flawedTrees() func(yield func(api.Errno, api.Tree) bool) {
	skip := api.TreeNode{Kind: api.SkipNode}
	deep := func(n int) []api.TreeNode {
		l := node(skip)
		for range n {
			l = of(api.NotNode, l)
		}
		return l
	}
	items := func(n int) api.Tree {
		l := make([][]api.TreeNode, n)
		for i := range l {
			l[i] = node(api.TreeNode{Kind: api.ImportItem, Text: "a"}, of(api.IntType))
		}
		return api.Tree{Nodes: of(api.ProgramNode, l...)}
	}
	wrong := seq(deep(58), node(skip))
	wrong.Nodes[4].N = 1
	return func(yield func(api.Errno, api.Tree) bool) {
		_ = yield(api.ErrForm, api.Tree{}) &&
			yield(api.ErrLimit, api.Tree{Nodes: make([]api.TreeNode, 901)}) &&
			yield(api.ErrForm, api.Tree{Nodes: make([]api.TreeNode, 900)}) &&
			yield(api.ErrLimit, seq(many(897, skip)...)) &&
			yield(api.ErrLimit, seq(deep(58), node(skip))) &&
			yield(api.ErrForm, wrong) &&
			yield(api.ErrLimit, items(25)) &&
			yield(api.ErrForm, api.Tree{Nodes: items(25).Nodes[1:]})
	}
}

// P2.3: limits of trees, and one more; and which error comes first.
func TestCheckLimits(t *testing.T) {
	for e, x := range flawedTrees() {
		if f := Check(x); f != e {
			t.Errorf("%d nodes: %v, not %v", len(x.Nodes), f, e)
		}
	}
	skip := api.TreeNode{Kind: api.SkipNode}
	l := node(skip)
	for range 57 {
		l = of(api.NotNode, l)
	}
	if e := Check(seq(l, node(skip))); e != api.OK {
		t.Errorf("a depth of 60: %v", e)
	}
	if x := seq(many(896, skip)...); len(x.Nodes) != 900 || Check(x) != api.OK {
		t.Errorf("%d nodes: %v", len(x.Nodes), Check(x))
	}
	if x := seq(many(896, api.TreeNode{Kind: api.NameNode, Text: "abcdefghijkl"})...); Check(x) != api.OK {
		t.Errorf("900 nodes with long names: %v", Check(x))
	}
	if e := Check(tree(t, strings.Repeat("import a:com;", 24))); e != api.OK {
		t.Errorf("24 items: %v", e)
	}
}

// rule says what a node of some kinds has: its fields (T, N, M), and the letters of its kids.
type rule struct {
	kinds  []uint8
	fields string
	kids   *regexp.Regexp
}

// letters are the kids of rules: items, params, integers and cells, types with params, terms, functions, objects, binds.
const letters = "ipbwtfon"

// rules is the table of the chapter.
var rules = func() []rule {
	is := func(fields, kids string, kinds ...uint8) rule {
		return rule{kinds, fields, regexp.MustCompile("^(" + kids + ")$")}
	}
	return []rule{
		is("", "i*", api.ProgramNode), is("T", "[bw]", api.ImportItem, api.ParamNode), is("T", "p*bt", api.DefItem, api.ExportItem),
		is("N", "", api.IntType, api.CellType, api.NumNode), is("", "bb+", api.ArrowType),
		is("", "tt+", api.SeqNode), is("", "ttt", api.IfNode), is("", "tt", api.WhileNode, api.ChooseNode, api.OrNode, api.AndNode, api.EqNode, api.LessNode, api.AddNode, api.SubNode, api.MulNode),
		is("TNM", "t", api.NewNode), is("T", "tt", api.LabelNode), is("TN", "t", api.NoticeNode), is("T", "t", api.PutNode), is("", "t", api.NotNode), is("N", "t", api.AsNode),
		is("", "", api.TrueNode, api.FalseNode, api.SkipNode, api.HangNode), is("T", "", api.JumpNode, api.GetNode, api.NameNode, api.BindNode),
		is("T", "[tfo]+", api.CallNode), is("", "n+t", api.FnNode), is("", "tnt", api.ObjectNode),
	}
}()

// letterOf returns the letter of a kind.
func letterOf(kind uint8) byte {
	switch {
	case kind >= api.ImportItem && kind <= api.ExportItem:
		return 'i'
	case kind == api.ParamNode:
		return 'p'
	case kind == api.IntType || kind == api.CellType:
		return 'b'
	case kind == api.ArrowType:
		return 'w'
	case kind >= api.SeqNode && kind <= api.CallNode:
		return 't'
	case kind == api.FnNode:
		return 'f'
	case kind == api.ObjectNode:
		return 'o'
	case kind == api.BindNode:
		return 'n'
	}
	return '?'
}

// nameForm is the form of names and keywords.
var nameForm = regexp.MustCompile(`\A[a-z][a-zA-Z0-9]{0,11}\z`)

// rightName reports whether a text is a name, as chapter 1 says it.
func rightName(s string) bool {
	words := " and as bool cell choose com def do else export false fn get hang if import in int jump label new not notice of or put skip then true while "
	return nameForm.MatchString(s) && !strings.Contains(words, " "+s+" ")
}

// rightTree reports whether nodes are a right tree, by the rules alone.
func rightTree(l []api.TreeNode) bool {
	if len(l) == 0 || l[0].Kind != api.ProgramNode {
		return false
	}
	n, ok := rightNode(l, 0)
	return ok && n == len(l)
}

// rightNode returns where a node ends, and whether it and all in it is right.
func rightNode(l []api.TreeNode, n int) (int, bool) {
	x := l[n]
	if x.Size < 1 || x.Size > len(l)-n {
		return 0, false
	}
	end := n + x.Size
	kids := ""
	for at := n + 1; at < end; {
		next, ok := rightNode(l[:end], at)
		if !ok {
			return 0, false
		}
		kids += string(letterOf(l[at].Kind))
		at = next
	}
	for _, r := range rules {
		if !slices.Contains(r.kinds, x.Kind) {
			continue
		}
		has := func(field string) bool { return strings.Contains(r.fields, field) }
		number := func(field string, n int) bool { return n == 0 || has(field) && n > 0 && n <= 1000000 }
		return end, r.kids.MatchString(kids) && (has("T") && rightName(x.Text) || !has("T") && x.Text == "") && number("N", x.N) && number("M", x.M)
	}
	return 0, false
}

// sample returns a right node with a letter.
func sample(letter byte) []api.TreeNode {
	skip, integer, bind := of(api.SkipNode), of(api.IntType), node(api.TreeNode{Kind: api.BindNode, Text: "x"})
	switch letter {
	case 'i':
		return node(api.TreeNode{Kind: api.ImportItem, Text: "a"}, integer)
	case 'p':
		return node(api.TreeNode{Kind: api.ParamNode, Text: "a"}, integer)
	case 'b':
		return integer
	case 'w':
		return of(api.ArrowType, integer, of(api.CellType))
	case 'f':
		return of(api.FnNode, bind, skip)
	case 'o':
		return of(api.ObjectNode, skip, bind, skip)
	case 'n':
		return bind
	}
	return skip
}

// samples returns right nodes with letters.
func samples(row string) (l [][]api.TreeNode) {
	for _, c := range []byte(row) {
		l = append(l, sample(c))
	}
	return l
}

// within returns a tree in which a node stands where its kind can stand.
func within(x []api.TreeNode) []api.TreeNode {
	integer, skip := of(api.IntType), of(api.SkipNode)
	switch letterOf(x[0].Kind) {
	case 'i':
		return of(api.ProgramNode, x)
	case 'p':
		return within(node(api.TreeNode{Kind: api.DefItem, Text: "f"}, x, integer, skip))
	case 'b', 'w':
		return within(node(api.TreeNode{Kind: api.ImportItem, Text: "f"}, x))
	case 't':
		return within(node(api.TreeNode{Kind: api.DefItem, Text: "f"}, integer, x))
	case 'f', 'o':
		return within(node(api.TreeNode{Kind: api.CallNode, Text: "f"}, x))
	case 'n':
		return within(of(api.FnNode, x, skip))
	}
	return x
}

// tryRight looks whether Check says of a tree what the rules say.
func tryRight(t *testing.T, l []api.TreeNode) bool {
	t.Helper()
	want := api.ErrForm
	right := rightTree(l)
	if right {
		want = api.OK
	}
	if e := Check(api.Tree{Nodes: l}); e != want {
		t.Fatalf("Check of %v: %v", l, e)
	}
	return right
}

// P2.3: each kind with all rows of up to four kids, and no others are right.
func TestCheckKids(t *testing.T) {
	rows := []string{""}
	for at := 0; at < len(rows) && len(rows[at]) < 4; at++ {
		for _, c := range letters {
			rows = append(rows, rows[at]+string(c))
		}
	}
	right := 0
	for _, r := range rules {
		for _, kind := range r.kinds {
			for _, row := range rows {
				if tryRight(t, within(made(r, kind, samples(row)...))) {
					right++
				}
			}
		}
	}
	if right != 172 {
		t.Errorf("%d are right", right)
	}
}

// made returns a node of a kind, with a name if it has one.
func made(r rule, kind uint8, kids ...[]api.TreeNode) []api.TreeNode {
	x := api.TreeNode{Kind: kind}
	if strings.Contains(r.fields, "T") {
		x.Text = "x"
	}
	return node(x, kids...)
}

// least returns a right node of a kind with as few kids as it can have.
func least(r rule, kind uint8) []api.TreeNode {
	for _, row := range []string{"", "b", "t", "bt", "bb", "tt", "ttt", "nt", "tnt"} {
		if r.kids.MatchString(row) {
			return made(r, kind, samples(row)...)
		}
	}
	return nil
}

// P2.3: each kind as a kid of each kind, at each place, whatever the other kids are.
func TestCheckKindsOfKids(t *testing.T) {
	for _, r := range rules {
		for _, kind := range r.kinds {
			for _, row := range []string{"i", "b", "w", "pbt", "bt", "bbb", "t", "tt", "ttt", "f", "nnt", "tnt"} {
				for at := range row {
					for _, s := range rules {
						for _, other := range s.kinds {
							kids := samples(row)
							kids[at] = least(s, other)
							tryRight(t, within(made(r, kind, kids...)))
						}
					}
				}
			}
		}
	}
}

// P2.3, R8: each kind with fields that it has and that it has not, with names, numbers at their limits, and places.
func TestCheckFields(t *testing.T) {
	for _, r := range rules {
		for _, kind := range r.kinds {
			for _, text := range []string{"", "a", "aB9", "abcdefghijkl", "abcdefghijklm", "A", "9", "if", "import", "skip", "a b", " a", "a ", "a~", "~a", "a\n", "\x00", "+", "a+b", "ä", strings.Repeat("a ", 2000)} {
				for _, n := range []int{0, 1, -1, 1000000, 1000001, math.MaxInt, math.MinInt} {
					for _, m := range []int{0, 1, -1, 1000000, 1000001, math.MaxInt, math.MinInt} {
						x := least(r, kind)
						x[0].Text, x[0].N, x[0].M, x[0].At = text, n, m, n-m
						tryRight(t, within(x))
					}
				}
			}
		}
	}
}

// P2.3, R8: all kinds that there are not.
func TestCheckKinds(t *testing.T) {
	for kind := range 256 {
		for _, text := range []string{"", "x"} {
			x := within(of(api.SkipNode))
			x[3].Kind, x[3].Text = uint8(kind), text
			tryRight(t, x)
			tryRight(t, node(api.TreeNode{Kind: uint8(kind), Text: text}))
			tryRight(t, []api.TreeNode{{Kind: uint8(kind), Text: text}})
		}
	}
}

// P2.3: random trees in which a field is another one.
func TestCheckChanged(t *testing.T) {
	r := source(2)
	right := 0
	for range 6000 {
		_, x := program(r, 40)
		l := x.Nodes
		n, m := r.IntN(len(l)), r.IntN(len(l))
		switch r.IntN(6) {
		case 0:
			l[n].Size += []int{-1, 1, -l[n].Size, 1000, math.MaxInt - 1000, math.MinInt}[r.IntN(6)]
		case 1:
			l[n].Kind = uint8(r.IntN(40))
		case 2:
			l[n].Size, l[m].Size = l[m].Size, l[n].Size
		case 3:
			l[n], l[m] = l[m], l[n]
		case 4:
			l[n].Text = l[m].Text
		case 5:
			l = slices.Delete(l, n, n+1)
		}
		if tryRight(t, l) {
			right++
		}
	}
	if right < 100 || right > 5900 {
		t.Errorf("%d are right", right)
	}
}

// family is a program with the kids of each node, and the node above it.
const family = "import k:(com,cell 2)->com;export f(a:com):com=k(fn(x,y)a,{get a;put x.b});"

// P2.5: kids, and the nodes above.
func TestKidsAndUp(t *testing.T) {
	u := tree(t, family)
	want := [][]int{{1, 6}, {2}, {3, 4, 5}, nil, nil, nil, {7, 9, 10}, {8}, nil, nil, {11, 15}, {12, 13, 14}, nil, nil, nil, {16, 17, 18}, nil, nil, nil}
	if len(u.Nodes) != len(want) {
		t.Fatalf("%d nodes", len(u.Nodes))
	}
	for n, kids := range want {
		if l, e := Kids(u, n); !slices.Equal(l, kids) || e != api.OK {
			t.Errorf("Kids of %d: %v, %v", n, l, e)
		}
		for _, kid := range kids {
			if up, e := Up(u, kid); up != n || e != api.OK {
				t.Errorf("Up of %d: %d, %v", kid, up, e)
			}
		}
	}
	if up, e := Up(u, 0); up != 0 || e != api.ErrNone {
		t.Errorf("Up of 0: %d, %v", up, e)
	}
}

// P2.6: the nodes of a node.
func TestSub(t *testing.T) {
	u := tree(t, family)
	for n, x := range u.Nodes {
		if l, e := Sub(u, n); !slices.Equal(l, u.Nodes[n:n+x.Size]) || e != api.OK {
			t.Errorf("%d: %v, %v", n, l, e)
		}
	}
}

// P2.6: nodes that become others, and the Sizes above them; none or several, where the tree is right then.
func TestGraft(t *testing.T) {
	u := tree(t, "import a:com;def f(x:bool):com=(a;skip;if x then a else skip);")
	skip, name := api.TreeNode{Kind: api.SkipNode, At: 99, Size: 1}, api.TreeNode{Kind: api.NameNode, Text: "b", At: -1, Size: 1}
	for _, x := range []struct {
		n    int
		l    []api.TreeNode
		want string
	}{
		{8, []api.TreeNode{name}, "import a:com;def f(x:bool):com=b;skip;if x then a else skip;"},
		{10, []api.TreeNode{name}, "import a:com;def f(x:bool):com=a;skip;b;"},
		{10, nil, "import a:com;def f(x:bool):com=a;skip;"},
		{9, []api.TreeNode{skip, name, skip}, "import a:com;def f(x:bool):com=a;skip;b;skip;if x then a else skip;"},
		{12, of(api.NotNode, []api.TreeNode{name}), "import a:com;def f(x:bool):com=a;skip;if x then not b else skip;"},
		{7, []api.TreeNode{name}, "import a:com;def f(x:bool):com=b;"},
		{4, nil, "import a:com;def f():com=a;skip;if x then a else skip;"},
		{5, of(api.ArrowType, of(api.IntType), of(api.CellType)), "import a:com;def f(x:(int 0)->cell 0):com=a;skip;if x then a else skip;"},
		{6, node(api.TreeNode{Kind: api.CellType, N: 3}), "import a:com;def f(x:bool):cell 3=a;skip;if x then a else skip;"},
		{1, nil, "def f(x:bool):com=a;skip;if x then a else skip;"},
		{1, u.Nodes[3:], "def f(x:bool):com=a;skip;if x then a else skip;def f(x:bool):com=a;skip;if x then a else skip;"},
		{0, of(api.ProgramNode), ""},
		{0, tree(t, "import b:com;").Nodes, "import b:com;"},
	} {
		v, e := Graft(u, x.n, x.l)
		if want := tree(t, x.want); e != api.OK || !same(v, want) {
			t.Errorf("%d, %v: %v, %v", x.n, x.l, v, e)
			continue
		}
		for i, y := range x.l {
			if x.n > 0 && v.Nodes[x.n+i] != y {
				t.Errorf("%d, %v: %v", x.n, x.l, v)
			}
		}
	}
}

// P2.6: the errors of what comes of a graft, behind those of the tree and of the number.
func TestGraftErrors(t *testing.T) {
	u := tree(t, "import a:com;def f(x:bool):com=not a;")
	skip, name := node(api.TreeNode{Kind: api.SkipNode}), node(api.TreeNode{Kind: api.NameNode, Text: "a"})
	deep := skip
	for range 58 {
		deep = of(api.NotNode, deep)
	}
	var items []api.TreeNode
	for range 24 {
		items = append(items, u.Nodes[1:3]...)
	}
	for _, x := range []struct {
		n int
		l []api.TreeNode
		e api.Errno
	}{
		{-1, skip, api.ErrRange}, {len(u.Nodes), skip, api.ErrRange}, {math.MaxInt, nil, api.ErrRange}, {math.MinInt, nil, api.ErrRange},
		{8, nil, api.ErrForm}, {8, slices.Concat(skip, skip), api.ErrForm}, {8, of(api.IntType), api.ErrForm}, {8, of(api.FnNode, name, skip), api.ErrForm}, {8, []api.TreeNode{{Kind: api.SkipNode}}, api.ErrForm}, {8, []api.TreeNode{{Kind: api.SkipNode, Size: 2}}, api.ErrForm}, {8, node(api.TreeNode{Kind: api.NameNode, Text: "if"}), api.ErrForm}, {8, node(api.TreeNode{Kind: api.NumNode, N: -1}), api.ErrForm},
		{0, nil, api.ErrForm}, {0, u.Nodes[1:], api.ErrForm}, {0, skip, api.ErrForm}, {2, name, api.ErrForm}, {7, nil, api.ErrForm}, {1, u.Nodes, api.ErrForm},
		{8, deep, api.ErrLimit}, {8, deep[1:], api.OK}, {1, items, api.ErrLimit}, {1, items[2:], api.OK}, {8, slices.Repeat(skip, 893), api.ErrLimit}, {8, slices.Repeat(skip, 892), api.ErrForm}, {0, make([]api.TreeNode, 901), api.ErrLimit}, {0, make([]api.TreeNode, 900), api.ErrForm},
	} {
		if v, e := Graft(u, x.n, x.l); e != x.e || e != api.OK && len(v.Nodes) > 0 {
			t.Errorf("%d, %d nodes: %v, %v", x.n, len(x.l), v, e)
		}
	}
}

// P2.7: the first item with a name, and not what stands in items.
func TestFind(t *testing.T) {
	u := tree(t, "import a:com;def f(x:com):com=y;export a():com=skip;export f():com=skip;def g():com=skip;")
	for name, want := range map[string]int{"a": 1, "f": 3, "g": 14} {
		if n, e := Find(u, name); n != want || e != api.OK {
			t.Errorf("%s: %d, %v", name, n, e)
		}
	}
	for _, name := range []string{"", "x", "y", "F", "a ", "if", "aa", "\xff"} {
		if n, e := Find(u, name); n != 0 || e != api.ErrNone {
			t.Errorf("%q: %d, %v", name, n, e)
		}
	}
	if n, e := Find(tree(t, ""), "a"); n != 0 || e != api.ErrNone {
		t.Errorf("no items: %d, %v", n, e)
	}
}

// P2.7: the tree without places.
func TestBare(t *testing.T) {
	u := tree(t, family)
	u.Nodes[4].At, u.Nodes[0].At = -7, 3
	v, e := Bare(u)
	if e != api.OK || !same(u, v) || slices.ContainsFunc(v.Nodes, func(x api.TreeNode) bool { return x.At != 0 }) {
		t.Errorf("%v, %v", v, e)
	}
	if v, e := Bare(tree(t, "~no items")); e != api.OK || !slices.Equal(v.Nodes, of(api.ProgramNode)) {
		t.Errorf("no items: %v, %v", v, e)
	}
}

// P2.3: what tells of trees has the errors of trees first, then that of the number.
func TestErrorsOfTrees(t *testing.T) {
	for e, x := range flawedTrees() {
		for _, n := range []int{-1, 0, len(x.Nodes)} {
			kids, f := Kids(x, n)
			up, g := Up(x, n)
			if len(kids) > 0 || up != 0 || f != e || g != e {
				t.Errorf("Kids: %v, %v; Up: %v, %v", kids, f, up, g)
			}
			sub, f := Sub(x, n)
			v, g := Graft(x, n, []api.TreeNode{{Kind: api.ProgramNode, Size: 1}})
			if len(sub) > 0 || len(v.Nodes) > 0 || f != e || g != e {
				t.Errorf("Sub: %v, %v; Graft: %v, %v", sub, f, v, g)
			}
		}
		found, f := Find(x, "a")
		v, g := Bare(x)
		if found != 0 || len(v.Nodes) > 0 || f != e || g != e {
			t.Errorf("Find: %v, %v; Bare: %v, %v", found, f, v, g)
		}
	}
	u := tree(t, "import a:com;")
	for _, n := range []int{-1, 3, math.MaxInt, math.MinInt} {
		kids, e := Kids(u, n)
		up, f := Up(u, n)
		sub, g := Sub(u, n)
		if len(kids) > 0 || up != 0 || len(sub) > 0 || e != api.ErrRange || f != api.ErrRange || g != api.ErrRange {
			t.Errorf("%d: %v, %v; %v, %v; %v, %v", n, kids, e, up, f, sub, g)
		}
	}
}

// P2, R4: trees, and what lies behind the end of their lists, stay as they are, and results are new memory.
func TestNothingChanges(t *testing.T) {
	u := tree(t, family)
	before := slices.Clone(u.Nodes)
	all := slices.Concat(u.Nodes, before, before)
	spare := api.Tree{Nodes: all[:len(before)]}
	graft := all[len(before) : len(before)+1]
	graft[0] = api.TreeNode{Kind: api.SkipNode, Size: 1}
	kept := slices.Clone(all)
	for n := range spare.Nodes {
		v, e := Graft(spare, n, graft)
		l, f := Sub(spare, n)
		kids, g := Kids(spare, n)
		Text(spare, n)
		Up(spare, n)
		if !slices.Equal(all, kept) {
			t.Fatalf("%d: nodes became %v", n, all)
		}
		for i := range v.Nodes {
			v.Nodes[i].Text = "changed"
		}
		for i := range l {
			l[i].Text = "changed"
		}
		for i := range kids {
			kids[i] = -1
		}
		if !slices.Equal(all, kept) {
			t.Fatalf("%d: results share memory: %v, %v, %v, %v", n, all, e, f, g)
		}
		if again, _ := Sub(spare, n); !slices.Equal(again, spare.Nodes[n:n+spare.Nodes[n].Size]) {
			t.Fatalf("%d: Sub again: %v", n, again)
		}
	}
	v, _ := Bare(spare)
	for i := range v.Nodes {
		v.Nodes[i].Text = "changed"
	}
	Check(spare)
	Print(spare)
	Find(spare, "f")
	if !slices.Equal(all, kept) {
		t.Fatalf("nodes became %v", all)
	}
	w, _, _ := Parse(family)
	w.Nodes[1].Text = "changed"
	if again := tree(t, family); !slices.Equal(again.Nodes, before) {
		t.Errorf("Parse again: %v", again)
	}
}
