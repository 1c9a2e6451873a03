package check

import (
	"slices"
	"testing"

	"riposte/api"
)

// P3.2, P3.3: in each program the first ^ stands at a declaration, the others at all nodes that mean it.
func TestMeansAndUses(t *testing.T) {
	for _, s := range []string{
		"^import i:bool;", "^import i:bool;export m():bool=^i;", "^import k:(com)->com;export m():com=^k(skip);", "^import c:cell 2;export m():com=if ^!c then ^c:=1 else ^c:=^!c;",
		"^def d():com=skip;def e():com=^d;export m():com=^d;e;", "^def d(x:com):com=x;export m():com=^d(^d(skip));", "^def d(x:com):com=x;def g(k:(com)->com):com=k(skip);export m():com=g(^d);", "^export m():com=skip;export n():com=skip;",
		"def d(^x:cell 3):com=^x:=^!x+1;", "def d(x:com):com=x;def e(^x:com):com=^x;", "export m(^k:(com)->com):com=^k(^k(skip));", "def d(^x:com):com=skip;",
		"export m():com=^new c:2:=0 in while ^!c do(^c:=0;^notice c:=1 in skip);", "export m():com=(new c:2:=0 in c:=1);^new d:2:=0 in ^d:=1;",
		"export m():com=^label l in(^jump l;label k in(^jump l;jump k)else ^jump l)else skip;", "export m():com=^label l in skip else skip;",
		"def g(k:(com,com)->com):com=skip;export m():com=g(fn(^x,y)(^x;y;^x));", "def g(k:cell 2):com=skip;export m():com=g({get 1;put ^v.if ^v then skip else skip});",
		// of several in sight with one name that with the greatest number
		"import a:com;^def a():com=skip;def f():com=^a;", "import a:com;def f(^a:com):com=^a;", "def f(a:com,^a:com):com=^a;^a;", "export m(c:cell 2):com=c:=!c;^new c:2:=0 in ^c:=^!c;", "export m(^c:cell 2):com=^c:=(new c:2:=0 in !c);", "export m(^c:cell 2):com=(new c:2:=0 in c:=1);^c:=1;",
		"export m():com=label l in(^label l in ^jump l else jump l)else skip;", "export m():com=^label l in(label l in jump l else ^jump l)else skip;",
		"^import a:com;def f():com=label a in ^a else skip;", "def f(a:com):com=^label a in(a;^jump a)else a;", "def f():com=^label a in new a:1:=0 in(^jump a;a:=0)else skip;", "def g(k:(com,com)->com):com=skip;export m():com=g(fn(x,^x)^x);",
		"export a():com=skip;^import a:com;def f():com=^a;", "^import a:com;export a():com=skip;def f():com=^a;", "^import a:com;def f():com=^a;import a:com;",
	} {
		u, l := marked(t, s)
		uses, e := Uses(u, l[0])
		if !slices.Equal(uses, l[1:]) || e != api.OK {
			t.Errorf("%s: Uses: %v, %v, not %v", s, uses, e, l[1:])
		}
		for _, n := range l[1:] {
			if d, e := Means(u, n); d != l[0] || e != api.OK {
				t.Errorf("%s: Means of %d: %d, %v, not %d", s, n, d, e, l[0])
			}
		}
	}
}

// P3.2, P3.3: what means nothing, and what is no declaration.
func TestMeansAndUsesErrors(t *testing.T) {
	u := tree(t, "import k:(com,cell 2)->com;def g(j:(com)->com,c:cell 2):com=x;export m():com=if x=0 then x(g(fn(a)a,{get x;put b.b}))else if !x<1+1 then x:=(1 as 2)else notice x:=0 in jump x;label l in new d:1:=0 in while not true and false or hang-1*2 do choose skip else skip else hang;")
	for n, x := range u.Nodes {
		d, means := Means(u, n)
		uses, e := Uses(u, n)
		wantMeans, wantUses := api.ErrNone, api.ErrNone
		switch x.Kind {
		case api.NameNode, api.CallNode, api.GetNode, api.PutNode, api.NoticeNode, api.JumpNode:
			wantMeans = api.OK
			if x.Text == "x" {
				wantMeans = api.ErrName
			}
		case api.ImportItem, api.DefItem, api.ExportItem, api.ParamNode, api.NewNode, api.LabelNode, api.BindNode:
			wantUses = api.OK
		}
		if means != wantMeans || means != api.OK && d != 0 {
			t.Errorf("Means of %d, %v: %d, %v", n, x, d, means)
		}
		if e != wantUses || e != api.OK && uses != nil {
			t.Errorf("Uses of %d, %v: %v, %v", n, x, uses, e)
		}
	}
}

// P3.2: the declarations in sight at the node behind the ^.
func TestSight(t *testing.T) {
	for _, x := range []struct {
		s    string
		want []string
	}{
		{"^import i:com;", nil}, {"import i:com;^import j:com;", []string{"i"}}, {"import i:com;import j:^com;", []string{"i"}}, {"import i:com;^def f():com=skip;", []string{"i"}}, {"import i:com;export m():com=^skip;import j:com;", []string{"i"}},
		{"def f():com=^skip;", nil}, {"def f():com=skip;^export m():com=skip;", []string{"f"}}, {"export m():com=^skip;", nil}, {"export m():com=skip;def f():com=^skip;", nil},
		{"def f(^a:com):com=skip;", nil}, {"def f(a:com,^b:com):com=skip;", nil}, {"def f(a:com):^com=skip;", nil}, {"def f(a:com,b:com):com=^skip;", []string{"a", "b"}}, {"def f(a:com,b:com):com=skip;def g(c:com):com=^skip;", []string{"f", "c"}},
		{"def f():com=^new c:1:=0 in skip;", nil}, {"def f():com=new c:1:=0 in ^skip;", []string{"c"}}, {"def f():com=new c:1:=0 in new d:1:=0 in(skip^;skip);", []string{"c", "d"}}, {"def f():com=(new c:1:=0 in skip);^skip;", nil}, {"def f():com=^skip;new c:1:=0 in skip;", nil},
		{"def f():com=^label l in skip else skip;", nil}, {"def f():com=label l in ^skip else skip;", []string{"l"}}, {"def f():com=label l in skip else ^skip;", nil},
		{"def f():com=g(^fn(x,y)skip);", nil}, {"def f():com=g(fn(^x,y)skip);", nil}, {"def f():com=g(fn(x,^y)skip);", nil}, {"def f():com=g(fn(x,y)^skip);", []string{"x", "y"}}, {"def f():com=g(fn(x,y)skip,^skip);", nil},
		{"def f():com=g(^{get 1;put v.skip});", nil}, {"def f():com=g({get ^1;put v.skip});", nil}, {"def f():com=g({get 1;put ^v.skip});", nil}, {"def f():com=g({get 1;put v.^skip});", []string{"v"}}, {"def f():com=g({get 1;put v.skip},^skip);", nil},
		{"import a:com;import a:com;def a(a:com):com=label a in new a:1:=0 in g(fn(a)^skip)else skip;", []string{"a", "a", "a", "a", "a", "a"}},
		{"import i:com;def d():com=skip;export e():com=skip;export m(p:com):com=new c:1:=0 in label l in g(fn(x,y)h({get 1;put v.^v}))else skip;import j:com;", []string{"i", "d", "p", "c", "l", "x", "y", "v"}},
	} {
		u, l := marked(t, x.s)
		got, e := Sight(u, l[0])
		if !slices.Equal(names(u, got), x.want) || !slices.IsSorted(got) || e != api.OK {
			t.Errorf("%s: Sight: %v, %v, not %v", x.s, names(u, got), e, x.want)
		}
		if all, e := Sight(u, 0); all != nil || e != api.OK {
			t.Errorf("%s: Sight of 0: %v, %v", x.s, all, e)
		}
	}
}
