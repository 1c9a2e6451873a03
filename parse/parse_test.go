package parse

import (
	"slices"
	"strings"
	"testing"

	"riposte/api"
)

// P2.1: each production, with all fields, places and Sizes of its nodes.
func TestParseNodes(t *testing.T) {
	for _, x := range []struct {
		s    string
		want []api.TreeNode
	}{
		{"", nil},
		{" ~ def\n", nil},
		{"import a:com;", []api.TreeNode{{Kind: api.ImportItem, Text: "a", Size: 2}, {Kind: api.IntType, N: 1, At: 9, Size: 1}}},
		{" import a:int 7;", []api.TreeNode{{Kind: api.ImportItem, Text: "a", At: 1, Size: 2}, {Kind: api.IntType, N: 7, At: 10, Size: 1}}},
		{"import a:int 0;", []api.TreeNode{{Kind: api.ImportItem, Text: "a", Size: 2}, {Kind: api.IntType, At: 9, Size: 1}}},
		{"import a:cell 1000000;", []api.TreeNode{{Kind: api.ImportItem, Text: "a", Size: 2}, {Kind: api.CellType, N: 1000000, At: 9, Size: 1}}},
		{"import a:(bool,cell 2)->com;", []api.TreeNode{{Kind: api.ImportItem, Text: "a", Size: 5}, {Kind: api.ArrowType, At: 9, Size: 4}, {Kind: api.IntType, N: 2, At: 10, Size: 1}, {Kind: api.CellType, N: 2, At: 15, Size: 1}, {Kind: api.IntType, N: 1, At: 24, Size: 1}}},
		{"def f():cell 3=skip;", []api.TreeNode{{Kind: api.DefItem, Text: "f", Size: 3}, {Kind: api.CellType, N: 3, At: 8, Size: 1}, {Kind: api.SkipNode, At: 15, Size: 1}}},
		{"export f(a:com,b:(com)->com):com=hang;", []api.TreeNode{{Kind: api.ExportItem, Text: "f", Size: 9}, {Kind: api.ParamNode, Text: "a", At: 9, Size: 2}, {Kind: api.IntType, N: 1, At: 11, Size: 1}, {Kind: api.ParamNode, Text: "b", At: 15, Size: 4}, {Kind: api.ArrowType, At: 17, Size: 3}, {Kind: api.IntType, N: 1, At: 18, Size: 1}, {Kind: api.IntType, N: 1, At: 24, Size: 1}, {Kind: api.IntType, N: 1, At: 29, Size: 1}, {Kind: api.HangNode, At: 33, Size: 1}}},
	} {
		got := tree(t, x.s).Nodes
		if got[0] != (api.TreeNode{Kind: api.ProgramNode, Size: len(x.want) + 1}) || !slices.Equal(got[1:], x.want) {
			t.Errorf("%q: %v", x.s, got)
		}
	}
}

// P2.1: each kind of a term, with all fields, places and Sizes of its nodes. Places are counted from the term on.
func TestParseTerms(t *testing.T) {
	a, b, c := api.TreeNode{Kind: api.NameNode, Text: "a", Size: 1}, api.TreeNode{Kind: api.NameNode, Text: "b", Size: 1}, api.TreeNode{Kind: api.NameNode, Text: "c", Size: 1}
	at := func(x api.TreeNode, at int) api.TreeNode {
		x.At = at
		return x
	}
	for _, x := range []struct {
		s    string
		want []api.TreeNode
	}{
		{"a", []api.TreeNode{a}},
		{"((a))", []api.TreeNode{at(a, 2)}},
		{"a;b", []api.TreeNode{{Kind: api.SeqNode, At: 1, Size: 3}, a, at(b, 2)}},
		{"a;b;c", []api.TreeNode{{Kind: api.SeqNode, At: 1, Size: 4}, a, at(b, 2), at(c, 4)}},
		{"a;(b;c)", []api.TreeNode{{Kind: api.SeqNode, At: 1, Size: 5}, a, {Kind: api.SeqNode, At: 4, Size: 3}, at(b, 3), at(c, 5)}},
		{"if a then b else c", []api.TreeNode{{Kind: api.IfNode, Size: 4}, at(a, 3), at(b, 10), at(c, 17)}},
		{"while a do b", []api.TreeNode{{Kind: api.WhileNode, Size: 3}, at(a, 6), at(b, 11)}},
		{"new x:3:=2 in a", []api.TreeNode{{Kind: api.NewNode, Text: "x", N: 3, M: 2, Size: 2}, at(a, 14)}},
		{"label l in a else b", []api.TreeNode{{Kind: api.LabelNode, Text: "l", Size: 3}, at(a, 11), at(b, 18)}},
		{"notice x:=4 in a", []api.TreeNode{{Kind: api.NoticeNode, Text: "x", N: 4, Size: 2}, at(a, 15)}},
		{"choose a else b", []api.TreeNode{{Kind: api.ChooseNode, Size: 3}, at(a, 7), at(b, 14)}},
		{"x:=a", []api.TreeNode{{Kind: api.PutNode, Text: "x", Size: 2}, at(a, 3)}},
		{"x:=y:=a", []api.TreeNode{{Kind: api.PutNode, Text: "x", Size: 3}, {Kind: api.PutNode, Text: "y", At: 3, Size: 2}, at(a, 6)}},
		{"a or b", []api.TreeNode{{Kind: api.OrNode, At: 2, Size: 3}, a, at(b, 5)}},
		{"a and b", []api.TreeNode{{Kind: api.AndNode, At: 2, Size: 3}, a, at(b, 6)}},
		{"a=b", []api.TreeNode{{Kind: api.EqNode, At: 1, Size: 3}, a, at(b, 2)}},
		{"a<b", []api.TreeNode{{Kind: api.LessNode, At: 1, Size: 3}, a, at(b, 2)}},
		{"a+b", []api.TreeNode{{Kind: api.AddNode, At: 1, Size: 3}, a, at(b, 2)}},
		{"a-b", []api.TreeNode{{Kind: api.SubNode, At: 1, Size: 3}, a, at(b, 2)}},
		{"a*b", []api.TreeNode{{Kind: api.MulNode, At: 1, Size: 3}, a, at(b, 2)}},
		{"not a", []api.TreeNode{{Kind: api.NotNode, Size: 2}, at(a, 4)}},
		{"not not a", []api.TreeNode{{Kind: api.NotNode, Size: 3}, {Kind: api.NotNode, At: 4, Size: 2}, at(a, 8)}},
		{"a as 5", []api.TreeNode{{Kind: api.AsNode, N: 5, At: 2, Size: 2}, a}},
		{"a as 5 as 6", []api.TreeNode{{Kind: api.AsNode, N: 6, At: 7, Size: 3}, {Kind: api.AsNode, N: 5, At: 2, Size: 2}, a}},
		{"0", []api.TreeNode{{Kind: api.NumNode, Size: 1}}},
		{"1000000", []api.TreeNode{{Kind: api.NumNode, N: 1000000, Size: 1}}},
		{"true", []api.TreeNode{{Kind: api.TrueNode, Size: 1}}},
		{"false", []api.TreeNode{{Kind: api.FalseNode, Size: 1}}},
		{"skip", []api.TreeNode{{Kind: api.SkipNode, Size: 1}}},
		{"hang", []api.TreeNode{{Kind: api.HangNode, Size: 1}}},
		{"jump l", []api.TreeNode{{Kind: api.JumpNode, Text: "l", Size: 1}}},
		{"! x", []api.TreeNode{{Kind: api.GetNode, Text: "x", Size: 1}}},
		{"f(a)", []api.TreeNode{{Kind: api.CallNode, Text: "f", Size: 2}, at(a, 2)}},
		{"f(a;b,(c))", []api.TreeNode{{Kind: api.CallNode, Text: "f", Size: 5}, {Kind: api.SeqNode, At: 3, Size: 3}, at(a, 2), at(b, 4), at(c, 7)}},
		{"f(fn(x)a)", []api.TreeNode{{Kind: api.CallNode, Text: "f", Size: 4}, {Kind: api.FnNode, At: 2, Size: 3}, {Kind: api.BindNode, Text: "x", At: 5, Size: 1}, at(a, 7)}},
		{"f(fn(x,y)if a then b else c,1)", []api.TreeNode{{Kind: api.CallNode, Text: "f", Size: 9}, {Kind: api.FnNode, At: 2, Size: 7}, {Kind: api.BindNode, Text: "x", At: 5, Size: 1}, {Kind: api.BindNode, Text: "y", At: 7, Size: 1}, {Kind: api.IfNode, At: 9, Size: 4}, at(a, 12), at(b, 19), at(c, 26), {Kind: api.NumNode, N: 1, At: 28, Size: 1}}},
		{"f({get a;put x.b})", []api.TreeNode{{Kind: api.CallNode, Text: "f", Size: 5}, {Kind: api.ObjectNode, At: 2, Size: 4}, at(a, 7), {Kind: api.BindNode, Text: "x", At: 13, Size: 1}, at(b, 15)}},
	} {
		const before = "export f():com="
		want := slices.Clone(x.want)
		for i := range want {
			want[i].At += len(before)
		}
		if got := tree(t, before+x.s+";").Nodes; !slices.Equal(got[3:], want) {
			t.Errorf("%q: %v", x.s, got[3:])
		}
	}
}

// P2.1: what binds more, chains that stand to the left, and what ends where.
func TestParseBinds(t *testing.T) {
	for _, x := range []struct{ s, want string }{
		{"a-b-c", "(a-b)-c"}, {"a+b-c+1", "((a+b)-c)+1"}, {"a*b*c", "(a*b)*c"}, {"a or b or c", "(a or b)or c"}, {"a and b and c", "(a and b)and c"},
		{"a or b and c", "a or(b and c)"}, {"a and not b=c", "a and(not(b=c))"}, {"not a and b", "(not a)and b"}, {"a=b+c", "a=(b+c)"}, {"a+b<c", "(a+b)<c"},
		{"a+b*c", "a+(b*c)"}, {"a*b+c", "(a*b)+c"}, {"a*b as 3", "a*(b as 3)"}, {"a as 3*b", "(a as 3)*b"}, {"!a as 3", "(!a)as 3"},
		{"if a then b else c;1", "(if a then b else c);1"}, {"if a then b else c+1", "if a then b else(c+1)"}, {"while a do b;c", "(while a do b);c"}, {"new x:3:=2 in a;b", "(new x:3:=2 in a);b"}, {"label l in a else b;c", "(label l in a else b);c"}, {"notice x:=1 in a;b", "(notice x:=1 in a);b"}, {"choose a else b;c", "(choose a else b);c"}, {"x:=a;b", "(x:=a);b"}, {"x:=a or b", "x:=(a or b)"},
		{"if if a then b else c then a else b", "if(if a then b else c)then a else b"}, {"choose a else choose b else c", "choose a else(choose b else c)"}, {"choose choose a else b else c", "choose(choose a else b)else c"}, {"label l in label k in a else b else c", "label l in(label k in a else b)else c"},
		{"f(a;b)", "f((a;b))"}, {"f(fn(x)y:=a,b)", "f(fn(x)(y:=a),b)"}, {"f({get x:=a;put x.y:=b})", "f({get(x:=a);put x.(y:=b)})"}, {"f\n(a)", "f(a)"},
	} {
		const before = "export f():com="
		if a, b := tree(t, before+x.s+";"), tree(t, before+x.want+";"); !same(a, b) {
			t.Errorf("%q and %q: %v and %v", x.s, x.want, a, b)
		}
	}
}

// P2.1: a ; behind which an item, or the end, comes belongs to no term.
func TestParseEndsOfItems(t *testing.T) {
	for s, sizes := range map[string][]int{
		"def f():com=a;def g():com=b;": {3, 3}, "def f():com=a;b;import g:com;": {5, 2}, "def f():com=a;export g():com=b;c;": {3, 5}, "def f():com=a;\n~ def\n": {3}, "import f:com;import g:com;": {2, 2}, "def f():com=f(a;b);": {6},
	} {
		x := tree(t, s)
		var got []int
		for n := range kidsOf(x.Nodes, 0) {
			got = append(got, x.Nodes[n].Size)
		}
		if !slices.Equal(got, sizes) {
			t.Errorf("%q: items of the sizes %v", s, got)
		}
	}
}

// stuckTexts are texts, and where they do not go on: behind each token of each production.
var stuckTexts = []struct {
	s  string
	at int
}{
	{"x", 0}, {";", 0}, {"import a:com;;", 13}, {"import a:com;x", 13}, {" ~\n)", 3},
	{"import", 6}, {"import ", 7}, {"import if:com;", 7}, {"import a", 8}, {"import a com;", 9}, {"import a:", 9}, {"import a:a;", 9}, {"import a:=com;", 8}, {"import a:int;", 12}, {"import a:cell", 13}, {"import a:com 2;", 13}, {"import a:int x;", 13},
	{"import a:();", 10}, {"import a:(com);", 14}, {"import a:(com com)->com;", 14}, {"import a:(com,)->com;", 14}, {"import a:(com)->;", 16}, {"import a:((com)->com)->com;", 10}, {"import a:(com)->(com)->com;", 16}, {"import a:com", 12}, {"import a:com=a;", 12}, {"import a:com;b", 13},
	{"def", 3}, {"def 1", 4}, {"def f:com=a;", 5}, {"def f(", 6}, {"def f(,", 6}, {"def f(a)", 7}, {"def f(a:", 8}, {"def f(a:com,)", 12}, {"def f(a:com b:com)", 12}, {"def f()=a;", 7}, {"def f():=a;", 7}, {"def f():a=a;", 8}, {"def f():(com)->com=a;", 8}, {"def f():com:=a;", 11}, {"def f():com a;", 12}, {"def f():com=;", 12}, {"def f():com=a", 13}, {"def f():com=a)", 13}, {"def f():com=a,b;", 13}, {"export export", 7}, {"def def", 4},
	{"def f():com=a;;", 14}, {"def f():com=a;)", 14}, {"def f():com=a;b", 15}, {"def f():com=a b;", 14}, {"def f():com=a;b c;", 16}, {"def f():com=a def g():com=b;", 14}, {"def f():com=f(a;def g():com=b;", 15}, {"def f():com=(a;", 14}, {"def f():com=(a;import g:com;", 14}, {"def f():com=(a;b", 16},
	{"def f():com=if;", 14}, {"def f():com=if a b", 17}, {"def f():com=if a;b", 16}, {"def f():com=if a then;", 21}, {"def f():com=if a then b;", 23}, {"def f():com=if a then b else;", 28}, {"def f():com=if a then(b;c)else", 30},
	{"def f():com=while do", 18}, {"def f():com=while a;", 19}, {"def f():com=while a do;", 22}, {"def f():com=then", 12},
	{"def f():com=new:3:=0 in a;", 15}, {"def f():com=new x:=0 in a;", 17}, {"def f():com=new x:a", 18}, {"def f():com=new x:3 in", 20}, {"def f():com=new x:3=0 in a;", 19}, {"def f():com=new x:3:=a", 21}, {"def f():com=new x:3:=0 do", 23}, {"def f():com=new x:3:=0 in;", 25},
	{"def f():com=label in", 18}, {"def f():com=label l do", 20}, {"def f():com=label l in else", 23}, {"def f():com=label l in a;", 24}, {"def f():com=label l in a else;", 29},
	{"def f():com=notice 1", 19}, {"def f():com=notice x:3:=0 in a;", 20}, {"def f():com=notice x:=y", 22}, {"def f():com=notice x:=1 do", 24}, {"def f():com=notice x:=1 in;", 26},
	{"def f():com=choose else", 19}, {"def f():com=choose a;b", 20}, {"def f():com=choose a else;", 25},
	{"def f():com=x:=;", 15}, {"def f():com=x:=if", 17}, {"def f():com=1:=a;", 13}, {"def f():com=!x:=a;", 14}, {"def f():com=a+x:=b;", 15}, {"def f():com=(x):=b;", 15}, {"def f():com=x:a", 13}, {"def f():com=not x:=a;", 17},
	{"def f():com=a or;", 16}, {"def f():com=a or if", 17}, {"def f():com=or a;", 12}, {"def f():com=a and;", 17}, {"def f():com=a and while", 18}, {"def f():com=not;", 15}, {"def f():com=not choose", 16}, {"def f():com=a=;", 14}, {"def f():com=a=b=c;", 15}, {"def f():com=a<b<c;", 15}, {"def f():com=a=b<c;", 15}, {"def f():com=a=not b;", 14}, {"def f():com=a+;", 14}, {"def f():com=a+not b;", 14}, {"def f():com=-a;", 12}, {"def f():com=a-new", 14}, {"def f():com=a*;", 14}, {"def f():com=a*label", 14}, {"def f():com=a as;", 16}, {"def f():com=a as b;", 17}, {"def f():com=a as(3);", 16}, {"def f():com=a and or b;", 18},
	{"def f():com=jump;", 16}, {"def f():com=jump 1;", 17}, {"def f():com=!;", 13}, {"def f():com=!!x;", 13}, {"def f():com=!(x);", 13}, {"def f():com=();", 13}, {"def f():com=(a,b);", 14}, {"def f():com=(fn(x)a);", 13}, {"def f():com={get a;put x.b};", 12}, {"def f():com=fn(x)a;", 12}, {"def f():com=.", 12},
	{"def f():com=f();", 14}, {"def f():com=f(a;", 15}, {"def f():com=f(a,);", 16}, {"def f():com=f(a b);", 16}, {"def f():com=f(a)(b);", 16}, {"def f():com=1(a);", 13}, {"def f():com=!f(a);", 14}, {"def f():com=f(,a);", 14},
	{"def f():com=f(fn x", 17}, {"def f():com=f(fn()a);", 17}, {"def f():com=f(fn(1", 17}, {"def f():com=f(fn(x,)a);", 19}, {"def f():com=f(fn(x:com)a);", 18}, {"def f():com=f(fn(x));", 19}, {"def f():com=f(fn(x)a;b);", 20}, {"def f():com=f(fn(x)fn(y)a);", 19}, {"def f():com=f((fn(x)a));", 15},
	{"def f():com=f({put", 15}, {"def f():com=f({get;", 18}, {"def f():com=f({get a put x.b});", 21}, {"def f():com=f({get a;b;put x.b});", 21}, {"def f():com=f({get a;put 1", 25}, {"def f():com=f({get a;put x b});", 27}, {"def f():com=f({get a;put x.});", 27}, {"def f():com=f({get a;put x.b;c});", 28}, {"def f():com=f({get a;put x.b;});", 28}, {"def f():com=f({get a;put x.b);", 28}, {"def f():com=f({get{get a;put x.b};put x.b});", 18},
	{"def f():com=f({get a;", 21}, {"def f():com=f({get a;def g():com=b;", 21},
}

// P2.1: where a text does not go on, with no tree.
func TestParseStuck(t *testing.T) {
	g := newGrammar()
	for _, x := range stuckTexts {
		if u, at, e := Parse(x.s); len(u.Nodes) > 0 || at != x.at || e != api.ErrForm {
			t.Errorf("%q: %v, %d, %v", x.s, u, at, e)
		}
		if _, stuck := g.read(x.s); len(stuck) == 0 || stuck[0] != x.at {
			t.Errorf("%q: the grammar says %v", x.s, stuck)
		}
	}
}

// P2.1: the errors of tokens come first, with their places; then those of the grammar, then limits of the tree, with 0.
func TestParseErrorsInOrder(t *testing.T) {
	for _, x := range []struct {
		s  string
		at int
		e  api.Errno
	}{
		{"x \t", 2, api.ErrArg}, {"x #", 2, api.ErrForm}, {"x 01", 2, api.ErrForm}, {"x abcdefghijklm", 2, api.ErrForm}, {"x import f:int 1000001;", 15, api.ErrRange}, {"x\n#\x7f", 3, api.ErrArg},
		{"x" + strings.Repeat(" ", 2500), 0, api.ErrLimit}, {"x" + strings.Repeat(" ", 2499), 0, api.ErrForm}, {strings.Repeat(";", 901), 900, api.ErrLimit}, {strings.Repeat(";", 900), 0, api.ErrForm},
		{strings.Repeat("import a:com;", 25), 0, api.ErrLimit}, {strings.Repeat("import a:com;", 25) + "x", 325, api.ErrForm},
		{"def f():com=" + strings.Repeat("not ", 59) + "a;", 0, api.ErrLimit}, {"def f():com=" + strings.Repeat("not ", 59) + ";", 248, api.ErrForm},
		{"def f():com=" + strings.Repeat("(", 880) + ";", 892, api.ErrForm}, {"def f():com=" + strings.Repeat("f(", 440) + ";", 892, api.ErrForm}, {"def f():com=" + strings.Repeat("not ", 600) + ";", 2412, api.ErrForm},
	} {
		if u, at, e := Parse(x.s); len(u.Nodes) > 0 || at != x.at || e != x.e {
			t.Errorf("%q: %v, %d, %v", x.s, u, at, e)
		}
	}
}

// P2.1: each limit can be reached, in a text of as many bytes, tokens, items and levels as there may be.
func TestParseAtLimits(t *testing.T) {
	for _, x := range []struct {
		s     string
		nodes int
	}{
		{strings.Repeat("import a:com;", 24), 49},
		{"def f():com=" + strings.Repeat("not ", 58) + "a;", 62},
		{"def f():com=" + strings.Repeat("a+", 58) + "a;", 120},
		{"def f():com=" + strings.Repeat("(", 445) + "a" + strings.Repeat(")", 445) + ";", 4},
		{"def f():com=" + strings.Repeat("a;", 445) + "not a;", 451},
		{"import a:com;" + strings.Repeat("~", 2487), 3},
	} {
		if u := tree(t, x.s); len(u.Nodes) != x.nodes {
			t.Errorf("%q: %d nodes", x.s, len(u.Nodes))
		}
	}
	if u, at, e := Parse("def f():com=" + strings.Repeat("a+", 59) + "a;"); len(u.Nodes) > 0 || at != 0 || e != api.ErrLimit {
		t.Errorf("59 additions: %d, %d, %v", len(u.Nodes), at, e)
	}
}

// P2.2: which items are read, and the places of the faults.
func TestRecover(t *testing.T) {
	for _, x := range []struct {
		s     string
		items []string
		stuck []int
	}{
		{"", nil, nil}, {" ~x", nil, nil}, {"x", nil, []int{0}}, {"x y;(", nil, []int{0}}, {"def f():com=a;", []string{"f"}, nil},
		{"def f(; def g():com=a;", []string{"g"}, []int{6}}, {"x def f():com=a; y", nil, []int{0, 18}}, {"x def f():com=a; import", []string{"f"}, []int{0, 23}},
		{"def def def f():com=a;", []string{"f"}, []int{4, 8}}, {"import import a:com;", []string{"a"}, []int{7}}, {"def export f():com=a;import b:com;", []string{"f", "b"}, []int{4}},
		{"import a:com;x;import b:com;", []string{"a", "b"}, []int{13}}, {"import a:com;;import b:com;", []string{"a", "b"}, []int{13}}, {"def f():com=a;;import b:com;", []string{"b"}, []int{14}}, {"def f():com=(a;import b:com;", []string{"b"}, []int{14}}, {"def f():com=a import b:com;", []string{"b"}, []int{14}}, {"def f():com=a;b", nil, []int{15}},
		{"import a:com;def f():com=;export g():com=b;", []string{"a", "g"}, []int{25}}, {"def f(a:def):com=a;import b:com;", []string{"b"}, []int{8, 11}}, {"def f():com=f({get a;import b:com;", []string{"b"}, []int{21}}, {"def f():com=f({get a;put x.b;import b:com;", []string{"b"}, []int{28}},
		{strings.Repeat("import a:com;x ", 24), slices.Repeat([]string{"a"}, 24), []int{13, 28, 43, 58, 73, 88, 103, 118, 133, 148, 163, 178, 193, 208, 223, 238, 253, 268, 283, 298, 313, 328, 343, 358}},
		{"def f():com=" + strings.Repeat("not ", 60) + "; import a:com;", []string{"a"}, []int{252}}, {strings.Repeat("def ", 30), nil, []int{4, 8, 12, 16, 20, 24, 28, 32, 36, 40, 44, 48, 52, 56, 60, 64, 68, 72, 76, 80, 84, 88, 92, 96, 100, 104, 108, 112, 116, 120}},
	} {
		u, faults, e := Recover(x.s)
		if e != api.OK {
			t.Errorf("%q: %v", x.s, e)
			continue
		}
		var items []string
		for n := range kidsOf(u.Nodes, 0) {
			items = append(items, u.Nodes[n].Text)
		}
		var want []api.Fault
		for _, at := range x.stuck {
			want = append(want, api.Fault{At: at, E: api.ErrForm})
		}
		if !slices.Equal(items, x.items) || !slices.Equal(faults, want) || Check(u) != api.OK {
			t.Errorf("%q: %v, %v", x.s, items, faults)
		}
	}
	for _, x := range stuckTexts {
		if _, l, e := Recover(x.s); e != api.OK || len(l) == 0 || l[0] != (api.Fault{At: x.at, E: api.ErrForm}) {
			t.Errorf("%q: %v, %v", x.s, l, e)
		}
	}
}

// P2.2: the errors of tokens, and the limits of the tree, with neither a tree nor faults.
func TestRecoverErrors(t *testing.T) {
	for _, x := range []struct {
		s string
		e api.Errno
	}{
		{"# def", api.ErrForm}, {"x\t", api.ErrArg}, {"def f():com=1000001;", api.ErrRange}, {strings.Repeat(" ", 2501), api.ErrLimit}, {strings.Repeat(";", 901), api.ErrLimit},
		{strings.Repeat("import a:com;x ", 25), api.ErrLimit}, {"x def f():com=" + strings.Repeat("not ", 59) + "a;", api.ErrLimit},
	} {
		if u, l, e := Recover(x.s); len(u.Nodes) > 0 || len(l) > 0 || e != x.e {
			t.Errorf("%q: %v, %v, %v", x.s, u, l, e)
		}
	}
}
