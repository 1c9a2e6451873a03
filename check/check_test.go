package check

import (
	"strconv"
	"strings"
	"testing"

	"riposte/api"
)

// flaws tries programs with an error, each with its place behind a ^; those without a ^ have none.
func flaws(t *testing.T, e api.Errno, programs ...string) {
	t.Helper()
	for _, s := range programs {
		u, l := marked(t, s)
		want, at := api.OK, 0
		if len(l) > 0 {
			want, at = e, l[0]
		}
		if n, f := Program(u); n != at || f != want {
			t.Errorf("%s: Program: %d, %v, not %d, %v", s, n, f, at, want)
		}
	}
}

// P3.1: names that are there already.
func TestTwice(t *testing.T) {
	flaws(t, api.ErrTwice,
		// items: only those before
		"import a:com;^import a:com;", "import a:com;^def a():com=skip;", "def a():com=skip;^export a():com=skip;", "export a():com=skip;^import a:com;", "export a():com=skip;def b():com=skip;^def a():com=a;",
		// what is in an item has the name of no item: before it, itself, behind it
		"import a:com;def f(^a:com):com=skip;", "export a():com=skip;def f(^a:com):com=skip;", "def f(^f:com):com=skip;", "export f(^f:com):com=skip;", "def f(^a:com):com=skip;import a:com;", "def f(^a:com):com=skip;def a():com=skip;", "def f(^a:com):com=skip;export a():com=skip;",
		"def f():com=^new f:1:=0 in skip;", "def f():com=^new a:1:=0 in skip;import a:com;", "def f():com=^label f in skip else skip;", "import l:com;def f():com=^label l in skip else skip;",
		"def g(k:(com)->com):com=skip;def f():com=g(fn(^g)skip);", "def g(k:(com)->com):com=skip;def f():com=g(fn(^f)skip);", "def g(k:(com)->com):com=skip;def f():com=g(fn(x,^h)skip);import h:com;", "def g(k:cell 2):com=skip;def f():com=g({get 1;put ^f.skip});",
		// what is in an item has the name of nothing before it there, whether this is in sight or not
		"def f(a:com,^a:com):com=skip;", "def f(a:com,b:com,^a:cell 2):com=skip;", "def f(a:com):com=^new a:1:=0 in skip;", "def f(a:com):com=^label a in skip else skip;", "def f():com=label a in ^new a:1:=0 in skip else skip;", "def f():com=label a in skip else ^label a in skip else skip;", "def f():com=(new a:1:=0 in skip);^new a:1:=0 in skip;",
		"def g(k:(com)->com):com=skip;def f():com=g(fn(a,^a)skip);", "def g(k:(com)->com):com=skip;def f(a:com):com=g(fn(^a)skip);", "def g(k:(com)->com):com=skip;def f():com=g(fn(a)skip);g(fn(^a)skip);", "def g(k:(com)->com):com=skip;def f():com=g(fn(a)^new a:1:=0 in skip);", "def g(k:cell 2):com=skip;def f():com=new a:2:=0 in g({get 1;put ^a.skip});",
		// the same names in several items; what names mean is no declaration
		"def f(a:com):com=skip;def g(a:com):com=new b:1:=0 in a;export h(b:com):com=label a in jump a else b;", "def f(a:com):com=a;a;",
	)
	u, l := marked(t, "def f(^a:com):com=skip;^import a:com;")
	if n, e := Item(u, 1); n != l[0] || e != api.ErrTwice {
		t.Errorf("Item of f: %d, %v", n, e)
	}
	if n, e := Item(u, l[1]); n != 0 || e != api.OK {
		t.Errorf("Item of a: %d, %v", n, e)
	}
}

// P3.1: sizes from 1 to 64, and first values of cells, wherever they stand.
func TestRange(t *testing.T) {
	for _, s := range []string{
		"import a:^int #;", "import a:^cell #;", "import a:(^int #)->com;", "import a:(com,^cell #)->com;", "import a:(com,com)->^int #;",
		"def f(a:^int #):com=skip;", "def f(a:com,b:^cell #):com=skip;", "def f(a:(com,^int #)->com):com=skip;", "def f(a:(^cell #)->com):com=skip;", "def f(a:(com)->^int #):com=skip;",
		"def f():^int #=0;", "export m():^int #=0;", "export m(a:^int #):com=skip;", "export m(a:(int 2,^int #)->int 2):com=skip;",
		"def f():com=^new a:#:=0 in skip;", "def f():bool=(0 ^as #)as 2;", "def f():com=if 0 ^as # then skip else skip;",
	} {
		for _, size := range []int{0, 65, 1000000} {
			flaws(t, api.ErrRange, strings.ReplaceAll(s, "#", strconv.Itoa(size)))
		}
		for _, size := range []int{1, 2, 64} {
			flaws(t, api.OK, strings.NewReplacer("#", strconv.Itoa(size), "^", "").Replace(s))
		}
	}
	flaws(t, api.ErrRange,
		"def f():com=^new a:1:=1 in skip;", "def f():com=^new a:64:=64 in skip;", "def f():com=^new a:3:=1000000 in skip;", "def f():com=new a:64:=63 in skip;", "def f():com=new a:1:=0 in skip;", "def f():com=^new a:65:=64 in skip;",
		"def f():int 64=1000000 as 64;", "def f():com=new a:64:=0 in notice a:=63 in skip;", "import a:(^int 0,int 65)->com;", "import a:(^int 65)->com;import b:int 0;")
}

// P3.1, P3.2: names that mean nothing: that are not there, not in sight, or a label where it is none.
func TestNameless(t *testing.T) {
	flaws(t, api.ErrName,
		"def f():com=^x;", "def f():com=^x(skip);", "def f():bool=^!x;", "def f():com=^x:=1;", "def f():com=^notice x:=0 in skip;", "def f():com=^jump x;",
		// items: in those behind it
		"def f():com=^f;", "def f():com=^g;def g():com=skip;", "def f():com=^i;import i:com;", "def g():com=skip;def f():com=g;", "import i:com;def f():com=i;", "export g():com=skip;export f():com=^g;", "export g():com=^g;", "export g(a:com):com=^g(a);",
		// params: in the term of their item
		"def g(a:com):com=a;def f():com=^a;", "export g(a:com):com=a;",
		// cells: in the kid
		"def f():com=(new c:1:=0 in c:=0);^c:=0;", "def f():bool=(^!c)=(new c:1:=0 in !c);", "def f():com=new c:1:=0 in if !c then c:=0 else notice c:=0 in skip;",
		// labels: in the first kid, for jumps alone
		"def f():com=label l in jump l else skip;", "def f():com=label l in skip else ^jump l;", "def f():com=(label l in skip else skip);^jump l;", "def f():com=label l in ^l else skip;", "def f():com=label l in ^l:=0 else skip;", "def f():bool=label l in ^!l else true;", "def f():com=label l in ^l(skip)else skip;", "def f():com=label l in ^notice l:=0 in skip else skip;",
		"import x:com;def f():com=^jump x;", "def f(x:com):com=^jump x;", "def f():com=new x:1:=0 in ^jump x;",
		// what is bound: in the term of the FnNode, in the last kid of the ObjectNode
		"def g(k:(com)->com):com=skip;def f():com=g(fn(x)x);^x;", "def g(k:(com)->com,c:com):com=skip;def f():com=g(fn(x)skip,^x);", "def g(k:(com,com)->com):com=skip;def f():com=g(fn(x,y)(x;y));",
		"def g(k:cell 1):com=skip;def f():com=g({get ^v;put v.v});", "def g(k:cell 1):com=skip;def f():com=g({get 0;put v.v});", "def g(k:cell 1):com=skip;def f():com=g({get 0;put v.v});^v;", "def g(k:cell 1):com=skip;def f():com=label l in g({get(jump l;0);put v.jump l})else skip;",
		// not looked at for its size, but for its name
		"def f():bool=while ^x do 3;", "import i:com;def f():com=i(^x);",
	)
}

// P3.1: what each term fits, and what its kids are given.
func TestMisfits(t *testing.T) {
	flaws(t, api.ErrType,
		// bases of items
		"def f():^cell 2=skip;", "export f():^cell 1=skip;", "def f(c:cell 2):bool=!c;",
		// numbers and constants
		"def f():com=0;", "def f():com=^1;", "def f():int 64=63;", "def f():int 64=^64;", "def f():bool=^1000000;", "def f():bool=true;", "def f():bool=false;", "def f():com=^true;", "def f():int 3=^false;",
		"def f():com=hang;", "def f():bool=^skip;", "def f():bool=^hang;", "def f():bool=label l in ^jump l else true;", "def f():com=label l in jump l else skip;",
		// names of integers, cells, and of what has params
		"import i:int 3;def f():int 3=i;", "import i:int 3;def f():int 4=^i;", "import i:cell 3;def f():int 3=^i;", "import k:(com)->int 3;def f():int 3=^k;", "def g():int 3=2;def f():int 3=g;", "def g(x:com):int 3=2;def f():int 3=^g;", "def g(k:(com)->com):int 3=2;def f():int 3=^g;", "def f(x:int 3):int 3=x;", "def f(x:(com)->com):com=^x;", "def f():int 3=new c:3:=0 in ^c;",
		"import i:cell 3;def f():int 3=!i;", "import i:cell 3;def f():int 4=^!i;", "import i:int 3;def f():int 3=^!i;", "def f(c:cell 2):bool=!c;", "def f():bool=new c:2:=0 in !c;", "def f():com=new c:2:=0 in ^!c;", "def g():com=skip;def f():com=^!g;", "import k:(com)->com;def f():com=^!k;",
		"import i:cell 3;def f():com=i:=2;", "import i:cell 3;def f():com=i:=^3;", "import i:cell 3;def f():bool=^i:=2;", "import i:int 3;def f():com=^i:=2;", "def f(c:cell 2):com=c:=true;", "def f(c:(com)->com):com=^c:=skip;", "def g():com=skip;def f():com=^g:=0;", "import d:cell 2;def f(c:cell 3):com=c:=^!d;",
		// rows
		"def f():int 3=skip;0;2;", "def f():int 3=skip;^1;2;", "def f():int 3=^true;skip;2;", "def f():int 3=skip;0;^3;",
		"def f():int 3=if true then 1 else 2;", "def f():int 3=if true then ^3 else 2;", "def f():int 3=if true then 2 else ^3;", "def f():com=if ^1 then skip else skip;", "def f():com=if 1 as 64 then skip else skip;", "def f():com=if skip then skip else skip;", "def f():com=if 1^+1 then skip else skip;", "def f():com=if 1+(2 as 4)then skip else skip;", "def f():com=if ^2+(1 as 2)then skip else skip;",
		"def f():com=while true do skip;", "def f():com=while ^1 do skip;", "def f():com=while true do ^true;", "def f():com=while true do 0;", "def f():bool=^while true do skip;", "import i:int 5;def f():com=while i do hang;",
		"def f():int 3=new c:64:=0 in 2;", "def f():int 3=new c:64:=0 in ^3;",
		"def f():int 3=new c:4:=0 in notice c:=3 in 2;", "def f():int 3=new c:4:=0 in ^notice c:=4 in 2;", "def f():int 3=new c:4:=0 in notice c:=3 in ^3;", "def f(c:cell 4):com=^notice c:=0 in skip;", "import c:cell 4;def f():com=^notice c:=0 in skip;", "import c:com;def f():com=^notice c:=0 in skip;", "def g(k:(cell 4)->com):com=skip;def f():com=g(fn(c)^notice c:=0 in skip);",
		"def f():int 3=label l in 2 else 1;", "def f():int 3=label l in ^3 else 1;", "def f():int 3=label l in 1 else ^3;", "def f():int 3=choose 2 else 1;", "def f():int 3=choose ^3 else 1;", "def f():int 3=choose 1 else ^3;",
		"def f():bool=1 or 0;", "def f():bool=^2 or 0;", "def f():bool=0 or ^2;", "def f():com=0 ^or 0;", "def f():bool=1 and 0;", "def f():bool=^2 and 0;", "def f():bool=0 and ^2;", "def f():int 3=0 ^and 0;", "def f():bool=not 1;", "def f():bool=not ^2;", "def f():int 3=^not 1;",
		"import i:int 3;def f():bool=i=2;", "import i:int 3;def f():bool=2=i;", "import i:int 3;def f():bool=i=^3;", "import i:int 3;def f():bool=^3=i;", "import i:int 3;def f():com=i^=2;", "def f():bool=1^=1;", "import i:int 3;import j:int 4;def f():bool=i=^j;", "import i:int 3;def f():bool=i<2;", "import i:int 3;def f():bool=^3<i;", "def f():bool=1^<1;", "import i:int 3;def f():int 3=i^<2;", "def f():bool=1+1^=2*2;", "def f():bool=1+1=2*(2 as 3);", "def f():bool=1+1=^3*(2 as 3);",
		"def f():int 3=1+2;", "def f():int 3=1+^3;", "def f():int 3=^3-1;", "def f():int 3=2*^3;", "import i:int 3;def f():int 3=i*i-i+i;", "import i:int 3;def f():int 4=^i+1;",
		"def f():int 3=9 as 3;", "def f():int 3=9 ^as 4;", "import i:int 9;def f():int 3=i as 3;", "def f():int 3=(1^+1)as 3;", "def f():int 3=(true+1)as 3;", "def f():int 3=(true+^2)as 3;", "def f():int 3=5 as 5 as 3;", "def f():int 3=true as 3;",
		// own sizes, by where they are given
		"def f():com=if(if true then 1 else true)then skip else skip;", "def f():com=if(if true then true else 1)then skip else skip;", "def f():com=if(^if true then 1 else 1)then skip else skip;", "def f():com=if(label l in 1 else true)then skip else skip;", "def f():com=if(^label l in 1 else 1)then skip else skip;", "def f():com=if(choose 1 else true)then skip else skip;", "def f():com=if(^choose 1 else 1)then skip else skip;", "def f():com=if(skip;true)then skip else skip;", "def f():com=if(true^;1)then skip else skip;", "def f():com=if(new c:2:=0 in true)then skip else skip;", "def f():com=if(^new c:2:=0 in 1)then skip else skip;", "def f():com=new c:2:=0 in if(notice c:=0 in true)then skip else skip;", "def f():com=new c:2:=0 in if(^notice c:=0 in 1)then skip else skip;",
		"def f():com=if 1-true then skip else skip;", "def f():com=if 1^-1 then skip else skip;", "def f():com=if true*1 then skip else skip;", "def f():com=if 1^*1 then skip else skip;", "def f():com=if not 1 then if 1 and 1 then skip else skip else if 1 or 0 then skip else skip;", "def f():com=if hang then if(while true do skip)then skip else skip else label l in if(jump l)then skip else skip else skip;", "import c:cell 5;def f():com=if(c:=4)then skip else if !c then skip else skip;", "import k:(com)->int 5;def f():com=if k(skip)then skip else skip;", "def g(x:(com)->com):int 5=4;import k:(com)->com;def f():com=if g(k)then skip else skip;", "import c:cell 5;def f():com=if ^c then skip else skip;", "import k:(com)->int 5;def f():com=if ^k then skip else skip;", "import k:com;def f():com=if(k;^k(skip))then skip else skip;", "def f():com=new c:3:=0 in if ^c(1)=2 then skip else skip;", "import k:(com)->com;def f():com=if(k(skip)^;!k)then skip else skip;", "import k:int 4;def f():com=if(skip^;!k)then skip else skip;", "import k:cell 4;def f():com=if(skip^;k)then skip else skip;")
}

// P3.1: calls, and arguments for each kind of param.
func TestArguments(t *testing.T) {
	flaws(t, api.ErrType,
		// what is called, how many arguments there are, and what comes of it
		"import k:(com)->int 3;def f():int 3=k(skip);", "import k:(com)->int 3;def f():int 4=^k(skip);", "import k:(com)->int 3;def f():int 3=^k(skip,skip);", "import k:(com,com)->int 3;def f():int 3=^k(skip);", "import k:int 3;def f():int 3=^k(skip);", "import k:cell 3;def f():int 3=^k(skip);", "def g():int 3=0;def f():int 3=^g(skip);", "def g(x:com):int 3=0;def f():int 3=g(skip);", "def g(x:com):int 3=0;def f():int 4=^g(skip);", "def g(x:com):int 3=0;def f():int 3=^g(skip,skip);", "def f(k:(com)->int 3):int 3=k(skip);", "def f(k:int 3):int 3=^k(skip);", "def f():int 3=new c:3:=0 in ^c(skip);", "def g(k:(com)->com):com=skip;def f():com=g(fn(x)^x(skip));", "def g(k:cell 1):com=skip;def f():com=g({get 0;put v.^v(skip)});",
		// what has params and a cell as its Result is called, but no cell itself
		"import k:(com)->cell 3;def f():int 3=k(skip);", "import k:(com)->cell 3;def f():int 4=^k(skip);", "import k:(com)->cell 3;def f():int 3=^!k;", "import k:(com)->cell 3;def f():com=^k:=0;", "import k:(com)->cell 3;import j:(cell 3)->com;def f():com=j(^k);",
		// an integer
		"import k:(int 3)->com;def f():com=k(2);", "import k:(int 3)->com;def f():com=k(^3);", "import k:(int 3)->com;def f():com=k((skip;1+1));", "import k:(int 3)->com;def f():com=k(^fn(x)2);", "import k:(int 3)->com;def f():com=k(^{get 0;put v.skip});", "import k:(int 3)->com;import i:int 3;def f():com=k(i);", "import k:(int 3)->com;import i:int 4;def f():com=k(^i);", "import k:(int 3)->com;import i:cell 3;def f():com=k(^i);", "import k:(com,int 3)->com;def f():com=k(0,^3);", "def g(x:com,y:int 3):com=skip;def f():com=g(^1,3);", "def g(x:int 3):com=skip;def h():int 3=1;def f():com=g(h);", "def g(x:int 3):com=skip;def h(x:com):int 3=1;def f():com=g(^h);",
		// a cell
		"import k:(cell 3)->com;import c:cell 3;def f():com=k(c);", "import k:(cell 3)->com;import c:cell 4;def f():com=k(^c);", "import k:(cell 3)->com;import c:int 3;def f():com=k(^c);", "import k:(cell 3)->com;def f():com=new c:3:=0 in k(c);", "import k:(cell 3)->com;def f():com=new c:3:=0 in k(^!c);", "import k:(cell 3)->com;def f(c:cell 3):com=k(c);", "import k:(cell 3)->com;def f():com=k(^2);", "import k:(cell 3)->com;def f():com=k(^fn(c)skip);", "import k:(cell 3)->com;import j:(com)->com;def f():com=k(^j);", "def g(k:(cell 3)->com):com=skip;import j:(cell 3)->com;def f():com=g(fn(c)j(c));", "def g(k:(int 3)->com):com=skip;import j:(cell 3)->com;def f():com=g(fn(c)j(^c));",
		"import k:(cell 3)->com;def f():com=k({get 2;put v.skip});", "import k:(cell 3)->com;def f():com=k({get ^3;put v.skip});", "import k:(cell 3)->com;def f():com=k({get 2;put v.^1});", "import k:(cell 3)->com;import j:(int 3)->com;def f():com=k({get 2;put v.j(v)});", "import k:(cell 3)->com;import j:(int 4)->com;def f():com=k({get 2;put v.j(^v)});", "import k:(cell 3)->com;import j:(cell 3)->com;def f():com=k({get 2;put v.j(^v)});", "def g(c:cell 3):com=skip;def f():com=g({get 2;put v.if v=2 then skip else skip});", "def g(c:cell 3):com=skip;def f():com=g({get 2;put v.^!v});", "def g(c:cell 3):com=skip;def f():com=g({get 2;put v.^v:=1});",
		// something with params
		"def g(k:(bool)->int 3):com=skip;import j:(bool)->int 3;def f():com=g(j);", "def g(k:(bool)->int 3):com=skip;import j:(bool)->int 4;def f():com=g(^j);", "def g(k:(bool)->int 3):com=skip;import j:(cell 2)->int 3;def f():com=g(^j);", "def g(k:(bool)->int 3):com=skip;import j:(int 3)->int 3;def f():com=g(^j);", "def g(k:(bool)->int 3):com=skip;import j:(bool,bool)->int 3;def f():com=g(^j);", "def g(k:(bool)->int 3):com=skip;import j:int 3;def f():com=g(^j);", "def g(k:(bool)->int 3):com=skip;def h(x:bool):int 3=2;def f():com=g(h);", "def g(k:(bool)->int 3):com=skip;def f(x:(bool)->int 3):com=g(x);", "def g(k:(bool)->int 3):com=skip;def f():com=g(^2);", "def g(k:(bool)->int 3):com=skip;import j:(bool)->int 3;def f():com=g(^j(true));", "def g(k:(bool)->int 3):com=skip;def f():com=g(^{get 0;put v.skip});", "def g(k:(bool)->com):com=skip;def h(k:(bool)->com):com=skip;def f():com=h(^g);",
		"def g(k:(bool)->int 3):com=skip;def f():com=g(fn(x)2);", "def g(k:(bool)->int 3):com=skip;def f():com=g(fn(x)^3);", "def g(k:(bool)->int 3):com=skip;def f():com=g(fn(x)^x);", "def g(k:(bool)->bool):com=skip;def f():com=g(fn(x)x);", "def g(k:(bool)->int 3):com=skip;def f():com=g(^fn(x,y)2);", "def g(k:(bool,int 3)->int 3):com=skip;def f():com=g(^fn(x)2);", "def g(k:(bool,int 3)->int 3):com=skip;def f():com=g(fn(x,y)y);", "def g(k:(bool,int 3)->int 3):com=skip;def f():com=g(fn(x,y)^x);", "def g(k:(cell 3)->int 3):com=skip;def f():com=g(fn(c)!c);", "def g(k:(cell 3)->int 3):com=skip;def f():com=g(fn(c)^c);", "def g(k:bool):com=skip;def f():com=g(^fn(x)true);",
		// arguments in arguments
		"def g(k:(com)->com,c:cell 2):com=skip;def f():com=g(fn(x)g(fn(y)(x;y),{get 1;put v.g(fn(z)z,{get v;put w.skip})}),{get ^2;put u.skip});",
		// a program with a definition that has an error: what else it means does not hang on this
		"def g(c:cell 2):^cell 3=skip;def f():com=skip;")
}

// P3.1: the errors of an item one after the other, wherever they stand, each at its least node; and the first item that has one.
func TestOrderOfErrors(t *testing.T) {
	for _, x := range []struct {
		s string
		e api.Errno
	}{
		{"export m(a:int 65,^a:com):com=true;x;", api.ErrTwice}, {"export m(a:^int 65,b:com):com=true;x;", api.ErrRange}, {"export m(a:int 64,b:com):com=true;^x;", api.ErrName}, {"export m(a:int 64,b:com):com=^true;b;", api.ErrType},
		{"export m():com=x;^new c:65:=0 in y;", api.ErrRange}, {"export m():com=x;new c:65:=0 in ^label m in skip else skip;", api.ErrTwice}, {"export m():cell 2=skip;^x;", api.ErrName}, {"export m():^cell 2=2;", api.ErrType},
		{"export m(a:com,b:com,^b:com,a:com):com=skip;", api.ErrTwice}, {"export m(a:com,b:com,^a:com,b:com):com=skip;", api.ErrTwice}, {"export m(a:^cell 0,b:int 65):com=^x;y;", api.ErrRange}, {"export m():com=^x;y;", api.ErrName}, {"export m():com=^true;false;skip;", api.ErrType},
		{"import a:com;export m():com=^1;import a:com;", api.ErrType}, {"import a:^int 65;export m():com=1;", api.ErrRange}, {"export m():com=skip;export n():com=^x;export m():com=1;", api.ErrName},
	} {
		u, l := marked(t, x.s)
		if n, e := Program(u); n != l[0] || e != x.e {
			t.Errorf("%s: Program: %d, %v, not %d, %v", x.s, n, e, l[0], x.e)
		}
	}
}

// P3.1: each item by itself.
func TestItem(t *testing.T) {
	u, l := marked(t, "^import a:^int 65;^def f():com=^x;^export m():com=f;^export n():com=^1;^export o():com=^new n:1:=0 in skip;")
	for i, x := range []struct {
		n, at int
		e     api.Errno
	}{{l[0], l[1], api.ErrRange}, {l[2], l[3], api.ErrName}, {l[4], 0, api.OK}, {l[5], l[6], api.ErrType}, {l[7], l[8], api.ErrTwice}, {0, 0, api.ErrNone}, {l[1], 0, api.ErrNone}, {l[8], 0, api.ErrNone}} {
		if n, e := Item(u, x.n); n != x.at || e != x.e {
			t.Errorf("%d: Item: %d, %v, not %d, %v", i, n, e, x.at, x.e)
		}
	}
	if n, e := Program(tree(t, "")); n != 0 || e != api.OK {
		t.Errorf("no items: %d, %v", n, e)
	}
}
