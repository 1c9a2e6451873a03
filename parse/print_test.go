package parse

import (
	"strings"
	"testing"

	"riposte/api"
)

// P2.4: the text of a term, from each text that has this tree.
func TestTextOfTerms(t *testing.T) {
	for _, x := range []struct{ s, want string }{
		{"((a))", "a"}, {"(a;b)", "a;b"}, {"(a;b);c", "(a;b);c"}, {"a;(b;c);1", "a;(b;c);1"}, {"(a:=b);(if a then b else c);d", "a:=b;if a then b else c;d"},
		{"(if a then b else c);a", "if a then b else c;a"}, {"(while a do b);a", "while a do b;a"}, {"(new x:1:=0 in b);(new y:1:=0 in b);a", "new x:1:=0 in b;new y:1:=0 in b;a"}, {"(label l in b else c);a", "label l in b else c;a"}, {"(notice x:=0 in b);a", "notice x:=0 in b;a"}, {"(choose a else b);c", "choose a else b;c"}, {"(a or b);(not c)", "a or b;not c"},
		{"if (a;b) then c else (d:=e)", "if(a;b)then c else d:=e"}, {"if a then (b;c) else (d;e)", "if a then(b;c)else(d;e)"}, {"if (if a then b else c) then (while a do b) else (x:=c)", "if if a then b else c then while a do b else x:=c"},
		{"while (a;b) do (c;d)", "while(a;b)do(c;d)"}, {"while (hang) do (while a do b)", "while hang do while a do b"},
		{"new x : 3 := 2 in (a;b)", "new x:3:=2 in(a;b)"}, {"new x:0:=1000000 in (new y:1:=0 in a)", "new x:0:=1000000 in new y:1:=0 in a"},
		{"label l in (a;b) else (c;d)", "label l in(a;b)else(c;d)"}, {"label l in (label k in a else b) else (c)", "label l in label k in a else b else c"},
		{"notice x := 1 in (a;b)", "notice x:=1 in(a;b)"}, {"notice x := 0 in (a or b)", "notice x:=0 in a or b"},
		{"choose (a;b) else (c;d)", "choose(a;b)else(c;d)"}, {"choose (choose a else b) else (choose a else b)", "choose choose a else b else choose a else b"},
		{"x := (a;b)", "x:=(a;b)"}, {"x := (y := (if a then b else c))", "x:=y:=if a then b else c"},
		{"(a or b) or c", "a or b or c"}, {"a or (b or c)", "a or(b or c)"}, {"(a and b) or (c and d)", "a and b or c and d"}, {"(x:=a) or b", "(x:=a)or b"}, {"a or (if a then b else c)", "a or(if a then b else c)"},
		{"(a and b) and c", "a and b and c"}, {"a and (b and c)", "a and(b and c)"}, {"(a or b) and (c or d)", "(a or b)and(c or d)"}, {"(not a) and (not b)", "not a and not b"},
		{"not (a;b)", "not(a;b)"}, {"not (a or b)", "not(a or b)"}, {"not (a and b)", "not(a and b)"}, {"not (not (a=b))", "not not a=b"}, {"(not a)=b", "(not a)=b"}, {"a=(not b)", "a=(not b)"},
		{"(a=b)=c", "(a=b)=c"}, {"a=(b=c)", "a=(b=c)"}, {"(a<b)<c", "(a<b)<c"}, {"a<(b<c)", "a<(b<c)"}, {"(a+b)=(c-d)", "a+b=c-d"}, {"(a=b)+c", "(a=b)+c"}, {"(a<b)as 3", "(a<b)as 3"},
		{"(a+b)+c", "a+b+c"}, {"a+(b+c)", "a+(b+c)"}, {"(a-b)+c", "a-b+c"}, {"a-(b-c)", "a-(b-c)"}, {"a-(b+c)", "a-(b+c)"}, {"(a*b)+(c*d)", "a*b+c*d"}, {"(a and b)-c", "(a and b)-c"},
		{"(a*b)*c", "a*b*c"}, {"a*(b*c)", "a*(b*c)"}, {"(a+b)*c", "(a+b)*c"}, {"a*(b-c)", "a*(b-c)"}, {"(a as 3)*(b as 4)", "a as 3*b as 4"},
		{"(a as 3) as 4", "a as 3 as 4"}, {"(a*b) as 4", "(a*b)as 4"}, {"(a;b) as 4", "(a;b)as 4"}, {"(not a) as 4", "(not a)as 4"}, {"(!a) as 4", "!a as 4"}, {"(f(a)) as 4", "f(a)as 4"}, {"(choose a else b) as 0", "(choose a else b)as 0"},
		{"(0)+(1000000)", "0+1000000"}, {"(true);(false);(skip);(hang)", "true;false;skip;hang"}, {"! x + (jump l)", "!x+jump l"},
		{"f ( (a) )", "f(a)"}, {"f((a;b),(c:=d),(if a then b else c),a or b)", "f(a;b,c:=d,if a then b else c,a or b)"}, {"(f(a))+f(b)", "f(a)+f(b)"},
		{"f(fn(x,y)(a;b))", "f(fn(x,y)(a;b))"}, {"f(fn ( x ) (y := a), fn(z)(a or b))", "f(fn(x)y:=a,fn(z)a or b)"}, {"f(fn(x)(g(fn(y)a)))", "f(fn(x)g(fn(y)a))"},
		{"f({get (a;b); put x . (c;d)})", "f({get(a;b);put x.(c;d)})"}, {"f({get (a); put x . (y:=c)})", "f({get a;put x.y:=c})"}, {"f({get if a then b else c; put x . 1})", "f({get if a then b else c;put x.1})"},
	} {
		u := tree(t, "def f():com="+x.s+";")
		if s, e := Text(u, 3); s != x.want || e != api.OK {
			t.Errorf("%q: %q, %v", x.s, s, e)
		}
		if s, e := Print(u); s != "def f():com="+x.want+";\n" || e != api.OK {
			t.Errorf("%q: Print: %q, %v", x.s, s, e)
		}
	}
}

// P2.4: the texts of all nodes of a program.
func TestTextOfNodes(t *testing.T) {
	u := tree(t, "import k : (int 1,int 2,int 3,cell 1,cell 2) -> cell 9; def f(): int 0 = 1; export g(a: int 2, b: (com) -> int 1): com = k(fn(x) a, {get 1; put y. skip});")
	program := "import k:(com,bool,int 3,cell 1,cell 2)->cell 9;\ndef f():int 0=1;\nexport g(a:bool,b:(com)->com):com=k(fn(x)a,{get 1;put y.skip});\n"
	items := strings.Split(program, "\n")
	want := []string{program, items[0], "(com,bool,int 3,cell 1,cell 2)->cell 9", "com", "bool", "int 3", "cell 1", "cell 2", "cell 9", items[1], "int 0", "1", items[2], "a:bool", "bool", "b:(com)->com", "(com)->com", "com", "com", "com", "k(fn(x)a,{get 1;put y.skip})", "fn(x)a", "x", "a", "{get 1;put y.skip}", "1", "y", "skip"}
	if len(u.Nodes) != len(want) {
		t.Fatalf("%d nodes", len(u.Nodes))
	}
	for n, x := range want {
		if s, e := Text(u, n); s != x || e != api.OK {
			t.Errorf("%d: %q, %v", n, s, e)
		}
	}
	if s, e := Print(u); s != program || e != api.OK {
		t.Errorf("Print: %q, %v", s, e)
	}
	if s, e := Print(tree(t, "")); s != "" || e != api.OK {
		t.Errorf("Print of no items: %q, %v", s, e)
	}
}

// seq returns a tree with a definition of a SeqNode of other nodes.
func seq(kids ...[]api.TreeNode) api.Tree {
	return api.Tree{Nodes: of(api.ProgramNode, node(api.TreeNode{Kind: api.DefItem, Text: "f"}, node(api.TreeNode{Kind: api.IntType, N: 1}), of(api.SeqNode, kids...)))}
}

// many returns the same node so many times.
func many(n int, x api.TreeNode) (l [][]api.TreeNode) {
	for range n {
		l = append(l, node(x))
	}
	return l
}

// P2.4: as many bytes, and as many tokens, as a text can have, and one more.
func TestTextAtLimits(t *testing.T) {
	long, short, jump := api.TreeNode{Kind: api.NameNode, Text: "abcdefghijkl"}, api.TreeNode{Kind: api.NameNode, Text: "a"}, api.TreeNode{Kind: api.JumpNode, Text: "l"}
	for _, x := range []struct {
		name string
		t    api.Tree
		n    int
		size int
		e    api.Errno
	}{
		{"a term of 2500 bytes", seq(append(many(192, long), node(api.TreeNode{Kind: api.NameNode, Text: "abcd"}))...), 3, 2500, api.OK},
		{"a term of 2501 bytes", seq(append(many(192, long), node(api.TreeNode{Kind: api.NameNode, Text: "abcde"}))...), 3, 0, api.ErrLimit},
		{"an item of 2500 bytes", seq(append(many(191, long), node(api.TreeNode{Kind: api.NameNode, Text: "abcd"}))...), 1, 2500, api.OK},
		{"a program of 2501 bytes", seq(append(many(191, long), node(api.TreeNode{Kind: api.NameNode, Text: "abcd"}))...), 0, 0, api.ErrLimit},
		{"a program of 2500 bytes", seq(append(many(191, long), node(api.TreeNode{Kind: api.NameNode, Text: "abc"}))...), 0, 2500, api.OK},
		{"a term of 899 tokens", seq(many(450, short)...), 3, 899, api.OK},
		{"a term of 900 tokens", seq(append(many(449, short), node(jump))...), 3, 904, api.OK},
		{"a term of 901 tokens", seq(many(451, short)...), 3, 0, api.ErrLimit},
		{"an item of 900 tokens", seq(append(many(445, short), node(jump))...), 1, 909, api.OK},
		{"an item of 901 tokens", seq(many(447, short)...), 1, 0, api.ErrLimit},
		{"an item of 900 tokens in a program", seq(append(many(445, short), node(jump))...), 0, 910, api.OK},
		{"an item of 901 tokens in a program", seq(many(447, short)...), 0, 0, api.ErrLimit},
		{"a term in an item that is too long", seq(many(896, short)...), 4, 1, api.OK},
		{"an item that is too long", seq(many(896, short)...), 0, 0, api.ErrLimit},
	} {
		s, e := Text(x.t, x.n)
		if len(s) != x.size || e != x.e {
			t.Errorf("%s: %d bytes, %v", x.name, len(s), e)
		}
		if p, f := Print(x.t); x.n == 0 && (p != s || f != e) {
			t.Errorf("%s: Print: %q, %v", x.name, p, f)
		}
	}
}

// P2.4, P2.8: a program may have more tokens than a text, if no item has: then its text has no tree.
func TestPrintOfManyTokens(t *testing.T) {
	u := api.Tree{Nodes: of(api.ProgramNode, seq(many(200, api.TreeNode{Kind: api.SkipNode})...).Nodes[1:], seq(many(250, api.TreeNode{Kind: api.NameNode, Text: "a"})...).Nodes[1:])}
	s, e := Print(u)
	if e != api.OK || s != "def f():com="+strings.Repeat("skip;", 200)+"\ndef f():com="+strings.Repeat("a;", 250)+"\n" {
		t.Errorf("%q, %v", s, e)
	}
	if _, at, e := Parse(s); e != api.ErrLimit || at == 0 {
		t.Errorf("Parse of it: %d, %v", at, e)
	}
}

// P2.4: nodes that are not there, behind the errors of the tree.
func TestTextErrors(t *testing.T) {
	u := tree(t, "import a:com;")
	for _, n := range []int{-1, 3, 4, 1<<63 - 1, -1 << 63} {
		if s, e := Text(u, n); s != "" || e != api.ErrRange {
			t.Errorf("%d: %q, %v", n, s, e)
		}
		if s, e := Text(api.Tree{}, n); s != "" || e != api.ErrForm {
			t.Errorf("%d of no tree: %q, %v", n, s, e)
		}
	}
	for e, x := range flawedTrees() {
		if s, f := Text(x, 0); s != "" || f != e {
			t.Errorf("%v: %q, %v", e, s, f)
		}
		if s, f := Print(x); s != "" || f != e {
			t.Errorf("%v: Print: %q, %v", e, s, f)
		}
	}
}
