package core

import (
	"strconv"
	"strings"
	"testing"

	"riposte/api"
)

// becomes is a program, and what its export m becomes.
type becomes struct{ program, want string }

// becomings are several of them.
type becomings []becomes

// check tries programs.
func (l becomings) check(t *testing.T) {
	t.Helper()
	for _, x := range l {
		a, u, e := Of(tree(t, x.program), "m", false)
		if e != api.OK || text(a, u) != x.want {
			t.Errorf("%s: %s, %v, not %s", x.program, text(a, u), e, x.want)
		}
	}
}

// P7.1: terms that mean no definition.
func TestOfTerms(t *testing.T) {
	becomings{
		{"export m():int 64=63;", "63/64"},
		{"export m():com=0;", "0/1"},
		{"export m():bool=true;", "1/2"},
		{"export m():bool=false;", "0/2"},
		{"export m():com=skip;", "0/1"},
		{"export m():com=hang;", "hang"},
		{"export m():int 3=8 as 3;", "2/3"},
		{"export m():int 3=1000000 as 3;", "1/3"},
		{"export m():int 3=1 as 3;", "1/3"},
		{"export m():int 3=true as 3;", "as/3(1/2)"},
		{"export m():int 3=7 as 4 as 3;", "as/3(3/4)"},
		{"export m(a:bool):bool=a or true;", "if(x1,1/2,1/2)"},
		{"export m(a:bool):bool=a and true;", "if(x1,1/2,0/2)"},
		{"export m(a:bool):bool=not a;", "if(x1,0/2,1/2)"},
		{"export m(a:bool):bool=a or a and not a;", "if(x1,1/2,if(x1,if(x1,0/2,1/2),0/2))"},
		{"export m(a:int 5):bool=a=4;", "eq/5(x1,4/5)"},
		{"export m(a:int 5):bool=4=a;", "eq/5(4/5,x1)"},
		{"export m(a:int 5):bool=(a=a)=(a<a);", "eq/2(eq/5(x1,x1),less/5(x1,x1))"},
		{"export m(a:int 5):bool=1<a;", "less/5(1/5,x1)"},
		{"export m():int 7=1+2;", "add/7(1/7,2/7)"},
		{"export m():int 7=1-2-3;", "sub/7(sub/7(1/7,2/7),3/7)"},
		{"export m():int 7=1*2+3;", "add/7(mul/7(1/7,2/7),3/7)"},
		{"export m():int 7=(skip;6);", "seq(0/1,6/7)"},
		{"export m():com=skip;0;hang;", "seq(0/1,seq(0/1,hang))"},
		{"export m():com=(skip;0);hang;", "seq(seq(0/1,0/1),hang)"},
		{"export m():com=skip;(0;hang);", "seq(0/1,seq(0/1,hang))"},
		{"export m():com=skip;skip;skip;skip;hang;", "seq(0/1,seq(0/1,seq(0/1,seq(0/1,hang))))"},
		{"export m(a:int 3):int 4=if a then 1 else 2;", "if(x1,1/4,2/4)"},
		{"export m(a:int 3):com=while a do skip;", "while(x1,0/1)"},
		{"export m():int 4=choose 1 else 2;", "choose(1/4,2/4)"},
		{"export m():int 4=new c:3:=2 in !c as 4;", "new/3/2(as/4(!1))"},
		{"export m():int 4=new c:3:=2 in new d:4:=0 in(d:=!c as 4;!d);", "new/3/2(new/4/0(seq(=2(as/4(!1)),!2)))"},
		{"export m():com=(new c:2:=0 in c:=1);(new d:3:=1 in d:=2);", "seq(new/2/0(=1(1/2)),new/3/1(=1(2/3)))"},
		{"export m():int 4=label l in(jump l;1)else 2;", "label(seq(jump/0,1/4),2/4)"},
		{"export m():com=label l in label k in jump l else jump l else hang;", "label(label(jump/1,jump/0),hang)"},
		{"export m():com=label l in skip else label k in jump k else skip;", "label(0/1,label(jump/0,0/1))"},
		{"export m():com=new c:4:=0 in notice c:=3 in new d:2:=0 in notice d:=1 in notice c:=2 in hang;", "new/4/0(notice/1/3(new/2/0(notice/2/1(notice/1/2(hang)))))"},
	}.check(t)
}

// P7.1: what is asked of an arena, with arguments.
func TestOfIdentifiers(t *testing.T) {
	becomings{
		{"import i:com; import j:com; export m(a:com,b:int 4):int 4=(j;i;a;b);", "seq(x2,seq(x1,seq(x3,x4)))"},
		{"import i:com; export m(a:com):com=i;a; import j:com;", "seq(x1,x3)"},
		{"import c:cell 3; export m(d:cell 4):int 3=(c:=!d as 3;d:=0;!c);", "seq(=1(as/3(!2)),seq(=2(0/4),!1))"},
		{"import f:(bool,int 3)->int 5; export m():int 5=f(true,2);", "x1(1/2,2/3)"},
		{"import f:(bool)->bool; export m():bool=f(f(f(true)));", "x1(x1(x1(1/2)))"},
		{"import f:(cell 2)->com; import c:cell 2; export m(d:cell 2):com=(f(c);f(d);new e:2:=0 in f(e));", "seq(x1(&2),seq(x1(&3),new/2/0(x1(&4))))"},
		{"import f:(cell 2)->com; export m():com=f({get true;put v.skip});", "x1(obj(1/2,0/1))"},
		{"import f:(cell 2)->com; export m():com=f({get true;put v.if v then hang else f({get v;put w.if w and v then skip else hang})});", "x1(obj(1/2,if(#2,hang,x1(obj(#2,if(if(#3,#2,0/2),0/1,hang))))))"},
		{"import f:(cell 2)->com; export m():com=f({get(new c:2:=0 in!c);put v.new d:2:=1 in d:=v});", "x1(obj(new/2/0(!2),new/2/1(=3(#2))))"},
		{"import f:(com,cell 1)->com; export m():com=label l in new c:1:=0 in notice c:=0 in f(jump l,{get jump l;put v.(c:=v;jump l)})else skip;", "label(new/1/0(notice/2/0(x1(jump/0,obj(jump/0,seq(=2(#3),jump/0))))),0/1)"},
	}.check(t)
}

// P7.1: definitions, whose params stand for terms, with the names that are in sight where these stand.
func TestOfDefinitions(t *testing.T) {
	becomings{
		{"def d():int 3=2; export m():int 3=d+d;", "add/3(2/3,2/3)"},
		{"def d():com=skip; def e():com=(d;d); export m():com=(e;e);", "seq(seq(0/1,0/1),seq(0/1,0/1))"},
		{"def d(x:int 3):int 3=x*x; export m(a:int 3):int 3=d(a+1);", "mul/3(add/3(x1,1/3),add/3(x1,1/3))"},
		{"def d(x:int 3):int 3=2; export m():int 3=d(hang as 3);", "2/3"},
		{"def d(x:com,y:com):com=(y;x); export m(a:com,b:com):com=d(d(a,b),a);", "seq(x1,seq(x2,x1))"},
		{"def d(x:com):com=x; def e(y:com):com=d(y); def f(z:com):com=e(d(z)); export m():com=f(hang);", "hang"},
		{"def d(x:bool):bool=new c:2:=0 in(c:=x;!c); export m():bool=new c1:2:=1 in d(d(!c1));", "new/2/1(new/2/0(seq(=2(new/2/0(seq(=3(!1),!3))),!2)))"},
		{"def d(x:com):com=label l in x else skip; export m():com=label k in d(d(jump k))else hang;", "label(label(label(jump/2,0/1),0/1),hang)"},
		{"def d(x:com):com=label l in(x;jump l)else skip; export m():com=d(d(skip));", "label(seq(label(seq(0/1,jump/0),0/1),jump/0),0/1)"},
		{"def d():com=new c:2:=0 in notice c:=1 in hang; export m():com=new b:2:=0 in(d;d);", "new/2/0(seq(new/2/0(notice/2/1(hang)),new/2/0(notice/2/1(hang))))"},
		{"def d(x:com):com=new c:2:=0 in x; export m():com=new b:2:=0 in d(notice b:=1 in b:=0);", "new/2/0(new/2/0(notice/1/1(=1(0/2))))"},
	}.check(t)
}

// P7.1: params that stand for cells, objects and names.
func TestOfCells(t *testing.T) {
	becomings{
		{"def d(c:cell 3):int 3=(c:=1;!c); import k:cell 3; export m(p:cell 3):int 3=d(k)+d(p)+(new n:3:=2 in d(n));", "add/3(add/3(seq(=1(1/3),!1),seq(=2(1/3),!2)),new/3/2(seq(=3(1/3),!3)))"},
		{"def d(c:cell 3):int 3=!c; export m():int 3=d({get 2;put v.hang});", "2/3"},
		{"def d(c:cell 3):com=c:=2; export m():com=d({get 1;put v.skip});", "new/3/0(seq(=1(2/3),0/1))"},
		{"def d(c:cell 3):com=c:=2; import f:(int 3,cell 3)->com; export m():com=d({get 1;put v.f(v,{get v;put w.f(w,{get v+w;put u.hang})})});", "new/3/0(seq(=2(2/3),x1(!2,obj(!2,x1(#3,obj(add/3(!2,#3),hang))))))"},
		{"def d(c:cell 3):com=c:=!c+1; export m():com=new a:3:=0 in d({get!a;put v.a:=v});", "new/3/0(new/3/0(seq(=2(add/3(!1,1/3)),=1(!2))))"},
		{"def d(c:cell 3):com=c:=(c:=1;2); export m():com=d({get 0;put v.skip});", "new/3/0(seq(=1(seq(new/3/0(seq(=2(1/3),0/1)),2/3)),0/1))"},
		{"def d(c:cell 3):com=c:=1; def e(b:cell 3):com=d(b); def f(a:cell 3):com=e(a); export m():com=f({get 0;put v.hang});", "new/3/0(seq(=1(1/3),hang))"},
		{"def d(c:cell 3):com=c:=1; def e(b:cell 3):com=d({get!b;put v.b:=v}); export m(a:cell 3):com=e(a);", "new/3/0(seq(=2(1/3),=1(!2)))"},
		{"def d(c:cell 3):com=c:=1; def e(b:cell 3):com=d({get!b;put v.b:=v}); export m():com=e({get 2;put w.hang});", "new/3/0(seq(=1(1/3),new/3/0(seq(=2(!1),hang))))"},
		{"import f:(cell 3)->com; def d(c:cell 3):com=f(c); def e(b:cell 3):com=d(b); export m(p:cell 3):com=(e(p);new n:3:=0 in e(n);e({get 1;put v.skip}));", "seq(x1(&2),seq(new/3/0(x1(&3)),x1(obj(1/3,0/1))))"},
		{"def d(x:int 3,c:cell 3):com=c:=x; export m():com=d(1,{get 0;put v.d(v+1,{get 0;put w.if w=v then skip else hang})});", "new/3/0(seq(=1(1/3),new/3/0(seq(=2(add/3(!1,1/3)),if(eq/3(!2,!1),0/1,hang)))))"},
		{"def d(c:cell 2):com=label l in c:=1 else skip; export m():com=label k in d({get true;put v.jump k})else skip;", "label(label(new/2/0(seq(=1(1/2),jump/1)),0/1),0/1)"},
	}.check(t)
}

// P7.1: params with params, which stand for names and functions.
func TestOfFunctions(t *testing.T) {
	becomings{
		{"import f:(bool)->com; def d(k:(bool)->com):com=(k(true);k(false)); export m():com=d(f);", "seq(x1(1/2),x1(0/2))"},
		{"def d(k:(bool)->com):com=(k(true);k(false)); export m(f:(bool)->com):com=d(f);", "seq(x1(1/2),x1(0/2))"},
		{"def d(k:(bool)->com):com=k(true); def e(x:bool):com=if x then skip else hang; export m():com=d(e);", "if(1/2,0/1,hang)"},
		{"def d(k:(bool)->com):com=k(true); def e(j:(bool)->com):com=d(j); def g(h:(bool)->com):com=e(h); export m(f:(bool)->com):com=(g(f);g(fn(x)(while x do skip)));", "seq(x1(1/2),while(1/2,0/1))"},
		{"def d(k:(com)->com):com=k(k(skip)); export m(a:com):com=d(fn(x)(x;a;x));", "seq(seq(0/1,seq(x1,0/1)),seq(x1,seq(0/1,seq(x1,0/1))))"},
		{"def d(k:(int 3,cell 3)->int 3):int 3=new c:3:=1 in k(!c,c); export m():int 3=d(fn(x,y)(y:=x+1;!y));", "new/3/1(seq(=1(add/3(!1,1/3)),!1))"},
		{"def d(k:(cell 3)->com):com=k({get 2;put v.hang}); export m():com=d(fn(y)y:=!y);", "new/3/0(seq(=1(2/3),hang))"},
		{"import f:(cell 3)->com; def d(k:(cell 3)->com):com=k({get 2;put v.hang}); export m():com=(d(f);d(fn(y)f(y)));", "seq(x1(obj(2/3,hang)),x1(obj(2/3,hang)))"},
		{"def d(k:(com)->com,x:com):com=k(x); export m():com=label l in d(fn(y)(label j in(y;jump l)else jump l),jump l)else skip;", "label(label(seq(jump/1,jump/1),jump/0),0/1)"},
		{"def d(k:(com)->com):com=new c:2:=0 in k(c:=1); export m():com=new b:3:=0 in d(fn(y)(new a:4:=0 in(a:=1;b:=2;y)));", "new/3/0(new/2/0(new/4/0(seq(=3(1/4),seq(=1(2/3),=2(1/2))))))"},
		{"def d(k:(com)->com):com=new c:2:=0 in label l in k(jump l)else c:=1; export m():com=d(fn(y)d(fn(x)(x;y)));", "new/2/0(label(new/2/0(label(seq(jump/0,jump/1),=2(1/2))),=1(1/2)))"},
		{"def e(a:int 2,b:int 3):int 4=(a as 4)+(b as 4); def d(k:(int 2,int 3)->int 4):int 4=k(1,2); export m():int 4=d(e);", "add/4(as/4(1/2),as/4(2/3))"},
	}.check(t)
}

// P7.1: sizes of numbers are those that they are given where they stand, whatever stands for what.
func TestOfSizes(t *testing.T) {
	becomings{
		{"def d(x:int 5):bool=x=1; export m():bool=d(3);", "eq/5(3/5,1/5)"},
		{"def d(c:cell 6):com=c:=3; export m(p:cell 6):com=d(p);", "=1(3/6)"},
		{"def d(k:(int 6)->int 7):int 7=k(3)+1; export m():int 7=d(fn(x)(if x=2 then 3 else 4));", "add/7(if(eq/6(3/6,2/6),3/7,4/7),1/7)"},
		{"def d(c:cell 6):int 6=!c; export m():int 6=d({get 5;put v.skip});", "5/6"},
		{"export m(f:(int 9,cell 8)->int 7):int 7=f(8,{get 7;put v.while v=6 do skip})+6;", "add/7(x1(8/9,obj(7/8,while(eq/8(#2,6/8),0/1))),6/7)"},
		{"export m(a:int 9):int 7=if a=1 then 2 else(a<2)as 7;", "if(eq/9(x1,1/9),2/7,as/7(less/9(x1,2/9)))"},
	}.check(t)
}

// P7.1: the arena is that of the export.
func TestOfArena(t *testing.T) {
	u := tree(t, "import a:(int 3,cell 2)->bool; def d():com=skip; export k(p:cell 4):com=d; import b:com; export m(x:int 5,y:(com)->int 6):int 5=x; import c:cell 7;")
	for _, x := range []struct {
		export string
		jumps  bool
		want   string
	}{
		{"m", false, "int 5; (int 3, cell 2) -> int 2; int 1; cell 7; int 5; (int 1) -> int 6"},
		{"m", true, "int 5; (int 3, cell 2) -> int 2; int 1; cell 7; int 5; (int 1) -> int 6; jumps"},
		{"k", true, "int 1; (int 3, cell 2) -> int 2; int 1; cell 7; cell 4; jumps"},
	} {
		if a, _, e := Of(u, x.export, x.jumps); shown(a) != x.want || e != api.OK {
			t.Errorf("Of %s: %s, %v", x.export, shown(a), e)
		}
	}
}

// P7.1: the errors of check.Arena come first.
func TestOfErrors(t *testing.T) {
	deep := api.Tree{Nodes: make([]api.TreeNode, api.MaxNodes+1)}
	ids := ""
	for n := range api.MaxIds + 1 {
		ids += "import i" + strconv.Itoa(n) + ":com;"
	}
	long := doubling(20, "x;x") + "export m():com=a20(skip);"
	for _, x := range []struct {
		u api.Tree
		e api.Errno
	}{
		{api.Tree{}, api.ErrForm},
		{deep, api.ErrLimit},
		{tree(t, "export m():com=x;"), api.ErrName},
		{tree(t, "export m():com=1;"), api.ErrType},
		{tree(t, "export m():int 65=1;"), api.ErrRange},
		{tree(t, "def m():com=0; export m():com=0;"), api.ErrTwice},
		{tree(t, "export n():com=skip;"), api.ErrNone},
		{tree(t, "def m():com=skip;"), api.ErrNone},
		{tree(t, ids+"export m():com=skip;"), api.ErrLimit},
		{tree(t, long+"export n():com=1;"), api.ErrType},
		{tree(t, long), api.ErrLimit},
	} {
		a, v, e := Of(x.u, "m", true)
		if e != x.e || !sameArena(a, api.Arena{}) || !sameTerm(v, api.Term{}) {
			t.Errorf("%s: %s, %v, %v, not %v", printed(x.u), shown(a), v, e, x.e)
		}
	}
}

// doubling returns definitions a0, whose term has a param x, to an, each of which takes the one before twice.
func doubling(n int, first string) string {
	s := "def a0(x:com):com=" + first + ";"
	for k := range n {
		before := "a" + strconv.Itoa(k)
		s += "def a" + strconv.Itoa(k+1) + "(x:com):com=" + before + "(" + before + "(x));"
	}
	return s
}

// row returns a term some times, as a sequence.
func row(n int, term string) string { return strings.Repeat(term+";", n-1) + term }

// P7.1: a term has at most MaxCore nodes.
func TestOfMaxCore(t *testing.T) {
	for _, x := range []struct {
		program string
		nodes   int
		e       api.Errno
	}{
		{"export m():com=" + row(300, "skip") + ";", 599, api.OK},
		{"export m():com=new c:2:=0 in(" + row(300, "skip") + ");", api.MaxCore, api.OK},
		{"export m():com=" + row(301, "skip") + ";", 0, api.ErrLimit},
		{"def d():com=" + row(75, "skip") + "; export m():com=" + row(4, "d") + ";", 599, api.OK},
		{"def d():com=" + row(75, "skip") + "; export m():com=new c:2:=0 in(" + row(4, "d") + ");", api.MaxCore, api.OK},
		{"def d():com=" + row(75, "skip") + "; export m():com=" + row(4, "d") + ";skip;", 0, api.ErrLimit},
		{"def e(x:com):com=x;x; " + doubling(3, "x;x") + "export m():com=a3(skip);", 511, api.OK},
		{doubling(4, "x;x") + "export m():com=a4(skip);", 0, api.ErrLimit},
		{doubling(22, "x;x") + "export m():com=a22(skip);", 0, api.ErrLimit},
		{doubling(22, "x;x") + "export m():com=skip;", 1, api.OK},
		{"def d(x:com):com=skip; " + doubling(20, "x;x") + "export m():com=d(a20(skip));", 1, api.OK},
	} {
		_, u, e := Of(tree(t, x.program), "m", false)
		if n, f := Nodes(u); e != x.e || e == api.OK && (n != x.nodes || f != api.OK) {
			t.Errorf("%s: %d nodes, %v", x.program, n, e)
		}
	}
}

// P7.1: each node counts when it is taken, each time, if nothing comes of it, too; cells that are arguments do not count.
func TestOfMaxTaken(t *testing.T) {
	const deep = 52 // calls in one another, of which each takes a call and a name, for one node
	b := "def a(x:com):com=x; def b():com=" + strings.Repeat("a(", deep) + "skip" + strings.Repeat(")", deep) + "; "
	const most, each = 188, 2*deep + 2
	left := api.MaxTaken - 1 - most*each // the sequence itself counts, too
	defs := "def z():com=skip; def i(x:com):com=x; def n(x:com):com=skip; def y(x:com):com=i(x); def g(c:cell 3):int 3=!c; def h(c:cell 3):int 3=g(c); def p(c:cell 3):com=c:=1; def q(c:cell 3):com=p(c); def k(f:(com)->com):com=f(skip); def l(f:(com)->com):com=k(f); import r:cell 3; import s:(com,cell 3)->com;"
	for _, x := range []struct {
		term  string
		taken int
	}{
		{"skip", 1}, {"hang", 1}, {"0", 1}, {"0 as 1", 1}, {"(skip as 1)", 2},
		{"(skip;skip;skip;skip)", 5}, {"if skip then skip else skip", 4}, {"while skip do skip", 3}, {"choose skip else skip", 3},
		{"new c:2:=0 in notice c:=1 in skip", 3}, {"label j in jump j else skip", 3}, {"r:=2", 2}, {"r:=!r", 2},
		{"while true or not false and true do skip", 8}, {"while !r=0 do skip", 5},
		{"z", 2}, {"i(skip)", 3}, {"n(skip)", 2}, {"i(i(skip))", 5}, {"y(skip)", 5},
		{"s(skip,r)", 2}, {"s(skip,{get 0;put v.skip})", 4}, {"s(skip,{get!r;put v.r:=v})", 5},
		{"while g(r)do skip", 4}, {"while h(r)do skip", 5}, {"while h({get 0;put v.skip})do skip", 6},
		{"p(r)", 3}, {"q(r)", 4}, {"q({get 0;put v.skip})", 5}, {"q({get 0;put v.r:=v})", 6},
		{"k(i)", 4}, {"l(i)", 5}, {"l(n)", 4}, {"l(fn(x)skip)", 4}, {"l(fn(x)x)", 5},
	} {
		for over, want := range []api.Errno{api.OK, api.ErrLimit} {
			s := b + defs + "export m():com=(" + x.term + ");" + row(most, "b") + ";" + row(left-x.taken+over, "skip") + ";"
			if _, _, e := Of(tree(t, s), "m", false); e != want {
				t.Errorf("%s: %v where %d are taken", x.term, e, api.MaxTaken+over)
			}
		}
	}
}
