package core

import (
	"slices"
	"testing"

	"riposte/api"
	"riposte/check"
	"riposte/parse"
)

// P7.5: programs of terms of each kind.
func TestTree(t *testing.T) {
	imports := "import x1:bool;\nimport x2:cell 3;\nimport x3:(int 3,cell 2)->com;\nimport x4:cell 2;\n"
	for _, x := range []struct{ s, want string }{
		{"0/1", "0 as 1"},
		{"as/1(63/64)", "63 as 64 as 1"},
		{"as/1(x1)", "x1 as 1"},
		{"=2(!2)", "x2:=!x2"},
		{"as/1(add/3(!2,1/3))", "(!x2+1 as 3)as 1"},
		{"as/1(sub/3(!2,1/3))", "(!x2-1 as 3)as 1"},
		{"as/1(mul/3(!2,1/3))", "(!x2*1 as 3)as 1"},
		{"as/1(mul/3(1/3,!2))", "(1 as 3*!x2)as 1"},
		{"while(eq/3(!2,1/3),hang)", "while!x2=1 as 3 do hang"},
		{"while(less/3(!2,1/3),hang)", "while!x2<1 as 3 do hang"},
		{"seq(hang,seq(0/1,hang))", "hang;(0 as 1;hang)"},
		{"seq(seq(hang,0/1),hang)", "(hang;0 as 1);hang"},
		{"if(x1,hang,if(!2,hang,hang))", "if x1 then hang else if!x2 then hang else hang"},
		{"if(x1,0/1,as/1(0/2))", "if x1 then 0 as 1 else 0 as 2 as 1"},
		{"choose(hang,0/1)", "choose hang else 0 as 1"},
		{"new/3/1(=5(!5))", "new c1:3:=1 in c1:=!c1"},
		{"new/2/1(x3(!2,&5))", "new c1:2:=1 in x3(!x2,c1)"},
		{"x3(!2,&4)", "x3(!x2,x4)"},
		{"x3(0/3,obj(x1,while(#5,hang)))", "x3(0 as 3,{get x1;put v1.while v1 do hang})"},
		{"new/2/0(notice/5/1(hang))", "new c1:2:=0 in notice c1:=1 in hang"},
		{"label(jump/0,hang)", "label l1 in jump l1 else hang"},
		{"label(label(seq(jump/1,jump/0),jump/0),label(jump/0,hang))", "label l1 in label l2 in(jump l1;jump l2)else jump l1 else label l3 in jump l3 else hang"},
		{"new/2/0(label(new/3/1(seq(=5(as/2(!6)),jump/0)),=5(0/2)))", "new c1:2:=0 in label l2 in new c3:3:=1 in(c1:=!c3 as 2;jump l2)else c1:=0 as 2"},
		{"seq(new/2/0(=5(0/2)),new/2/0(new/3/0(=6(2/3))))", "new c1:2:=0 in c1:=0 as 2;new c2:2:=0 in new c3:3:=0 in c3:=2 as 3"},
		{"x3(0/3,obj(new/2/0(!5),new/2/0(=6(#5))))", "x3(0 as 3,{get new c1:2:=0 in!c1;put v2.new c3:2:=0 in c3:=v2})"},
		{"x3(new/3/0(!5),obj(x1,x3(0/3,obj(#5,while(#6,while(#5,hang))))))", "x3(new c1:3:=0 in!c1,{get x1;put v2.x3(0 as 3,{get v2;put v3.while v3 do while v2 do hang})})"},
	} {
		a := readArena(t, around)
		u, e := Parse(a, x.s)
		v, f := Tree(a, u)
		s, g := parse.Print(v)
		if want := imports + "export main():com=" + x.want + ";\n"; e != api.OK || f != api.OK || g != api.OK || s != want {
			t.Errorf("%s: %v, %v, %v, %s, not %s", x.s, e, f, g, s, want)
		}
		if w, _, _ := parse.Parse(s); !sameTree(v, w) {
			t.Errorf("%s: %v, not %v", x.s, v, w)
		}
		if n, e := check.Program(v); e != api.OK {
			t.Errorf("%s: %d, %v", s, n, e)
		}
	}
}

// sameTree reports whether the nodes of a tree are those of another one, but with At 0.
func sameTree(a, b api.Tree) bool {
	b, _ = parse.Bare(b)
	return slices.Equal(a.Nodes, b.Nodes)
}

// P7.5: types of all kinds as imports, and as the export's base.
func TestTreeOfArenas(t *testing.T) {
	for s, want := range map[string]string{
		"int 1": "export main():com=hang as 1;\n",
		"int 2; int 1; int 2; int 3; cell 1; cell 2; cell 64; jumps":        "import x1:com;\nimport x2:bool;\nimport x3:int 3;\nimport x4:cell 1;\nimport x5:cell 2;\nimport x6:cell 64;\nexport main():bool=hang as 2;\n",
		"int 64; (int 1) -> int 1; (cell 1, int 2, cell 3, int 4) -> int 5": "import x1:(com)->com;\nimport x2:(cell 1,bool,cell 3,int 4)->int 5;\nexport main():int 64=hang as 64;\n",
	} {
		a := readArena(t, s)
		u, e := Tree(a, kids(api.Term{Kind: api.TermAs, N: a.Root.N}, api.Term{Kind: api.TermHang}))
		if got, f := parse.Print(u); got != want || e != api.OK || f != api.OK {
			t.Errorf("%s: %s, %v, %v", s, got, e, f)
		}
	}
}

// P7.5: Root is a cell; a program has at most MaxNodes nodes, and is at most MaxDepth deep.
func TestTreeErrors(t *testing.T) {
	object := kids(api.Term{Kind: api.TermObject}, num(0, 2), api.Term{Kind: api.TermHang})
	if u, e := Tree(readArena(t, "cell 2"), object); e != api.ErrArg || len(u.Nodes) > 0 {
		t.Errorf("a cell: %v, %v", u, e)
	}
	a := readArena(t, "int 1")
	nested := func(n int) api.Term {
		u := num(0, 1)
		for range n {
			u = kids(api.Term{Kind: api.TermAs, N: 1}, u)
		}
		return u
	}
	// Around the term there are the program and the export, a number is two nodes.
	for n, want := range map[int]api.Errno{api.MaxDepth - 3: api.OK, api.MaxDepth - 2: api.ErrLimit} {
		if u, e := Tree(a, nested(n)); e != want || (len(u.Nodes) == 0) != (e != api.OK) {
			t.Errorf("%d in one another: %v", n, e)
		}
	}
	// The program, the export and its base, 298 choices, and 299 numbers, each two nodes.
	var choices func(n int) api.Term
	choices = func(n int) api.Term {
		if n == 1 {
			return num(0, 1)
		}
		return kids(api.Term{Kind: api.TermChoose}, choices(n/2), choices(n-n/2))
	}
	u := choices(299)
	for n := 3 + 298 + 2*299; n <= api.MaxNodes+2; n++ {
		v, e := Tree(a, u)
		if want := n <= api.MaxNodes; (e == api.OK) != want || want && len(v.Nodes) != n || !want && (e != api.ErrLimit || len(v.Nodes) > 0) {
			t.Errorf("%d nodes, not %d: %v", len(v.Nodes), n, e)
		}
		u = kids(api.Term{Kind: api.TermAs, N: 1}, u)
	}
}
