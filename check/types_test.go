package check

import (
	"testing"

	"riposte/api"
)

// P3.4: the type of the declaration behind the ^; "" is ErrType.
func TestType(t *testing.T) {
	for _, x := range []struct{ s, want string }{
		{"^import a:int 3;", "int 3"}, {"^import a:cell 64;", "cell 64"}, {"^import a:com;", "int 1"}, {"^import a:(bool,cell 4,com)->int 5;", "(int 2,cell 4,int 1)->int 5"}, {"^import a:int 0;", "int 0"}, {"^import a:cell 65;", "cell 65"}, {"^import a:(com)->cell 4;", "(com)->cell 4"},
		{"def f(^a:int 3):com=skip;", "int 3"}, {"def f(b:com,^a:cell 4):com=skip;", "cell 4"}, {"def f(^a:(com,cell 2)->int 3):com=skip;", "(com,cell 2)->int 3"},
		{"^def f():int 3=0;", "int 3"}, {"^def f(a:com,b:cell 2):int 3=0;", "(com,cell 2)->int 3"}, {"^def f(a:com,b:(com)->com):int 3=0;", ""}, {"^def f(a:(com)->com,b:com):int 3=0;", ""}, {"^def f(a:com):cell 3=0;", "(com)->cell 3"}, {"^def f():cell 3=0;", "cell 3"},
		{"^export m():bool=true;", "bool"}, {"^export m(a:cell 2,b:com):int 7=0;", "(cell 2,com)->int 7"}, {"^export m(k:(com)->com):com=skip;", ""}, {"^export m(a:com,b:com,c:com,d:com,e:com,f:com,g:com):com=x;", "(com,com,com,com,com,com,com)->com"},
		{"def f():com=^new c:3:=2 in skip;", "cell 3"}, {"def f():com=^new c:0:=9 in skip;", "cell 0"},
		{"def g(k:(bool,cell 3)->com):com=skip;def f():com=g(fn(^x,y)skip);", "bool"}, {"def g(k:(bool,cell 3)->com):com=skip;def f():com=g(fn(x,^y)skip);", "cell 3"}, {"def g(j:com,k:(bool,cell 3)->com):com=skip;def f():com=g(skip,fn(x,^y)skip);", "cell 3"}, {"def g(j:(com)->com,k:(bool,cell 3)->com):com=skip;def f():com=g(fn(z)skip,fn(^x,y)skip);", "bool"},
		// a call that has an error elsewhere has the types of what fits by itself
		{"def g(k:(bool)->com,j:com):com=skip;def f():com=g(fn(^x)skip);", "bool"}, {"def g(k:(bool)->com):com=skip;def f():com=g(fn(^x)skip,skip);", "bool"}, {"def g(k:(bool)->com):int 3=0;def f():com=g(fn(^x)5);", "bool"}, {"def g(c:cell 4,j:com):com=skip;def f():com=g({get 9;put ^v.0});", "int 4"},
		{"def g(k:(bool)->com):com=skip;def f():com=g(skip,fn(^x)skip);", ""}, {"def g(k:(bool)->com):com=skip;def f():com=g(fn(^x,y)skip);", ""}, {"def g(k:(bool,com)->com):com=skip;def f():com=g(fn(^x)skip);", ""}, {"def g(k:com):com=skip;def f():com=g(fn(^x)skip);", ""}, {"def g(k:cell 2):com=skip;def f():com=g(fn(^x)skip);", ""}, {"def f():com=g(fn(^x)skip);", ""}, {"import k:(com)->com;def f():com=k(fn(^x)skip);", ""}, {"def f(k:(com)->com):com=k(fn(^x)skip);", ""}, {"def f():com=new c:2:=0 in c(fn(^x)skip);", ""}, {"export g(k:(bool)->com):com=skip;def f():com=g(fn(^x)skip);", ""}, {"def f():com=g(fn(^x)skip);def g(k:(bool)->com):com=skip;", ""}, {"def f(k:(bool)->com):com=f(fn(^x)skip);", ""},
		{"def g(k:(com)->com):com=skip;def f():com=g(fn(y)y(fn(^x)skip));", ""},
		{"def g(c:cell 4):com=skip;def f():com=g({get 1;put ^v.skip});", "int 4"}, {"import k:(cell 4)->com;def f():com=k({get 1;put ^v.skip});", "int 4"}, {"import k:(com,cell 4)->com;def f():com=k(skip,{get 1;put ^v.skip});", "int 4"}, {"def f(k:(cell 4)->com):com=k({get 1;put ^v.skip});", "int 4"}, {"import k:(cell 0)->com;def f():com=k({get 1;put ^v.skip});", "int 0"},
		{"import k:(int 4)->com;def f():com=k({get 1;put ^v.skip});", ""}, {"def g(k:(com)->cell 4):com=skip;def f():com=g({get 1;put ^v.skip});", ""}, {"def g(k:(cell 4)->com):com=skip;def f():com=g({get 1;put ^v.skip});", ""}, {"import k:(cell 4)->com;def f():com=k(skip,{get 1;put ^v.skip});", ""}, {"import k:cell 4;def f():com=k({get 1;put ^v.skip});", ""}, {"def f():com=k({get 1;put ^v.skip});", ""}, {"export g(c:cell 4):com=skip;def f():com=g({get 1;put ^v.skip});", ""}, {"def g(k:(com)->com):com=skip;def f():com=g(fn(y)y({get 1;put ^v.skip}));", ""}, {"def g(k:(cell 4)->com):com=skip;def f():com=g(fn(y)y({get 1;put ^v.skip}));", ""},
		{"def f():com=skip^;skip;", "none"}, {"def f():com=^label l in skip else skip;", "none"}, {"def f():^com=skip;", "none"}, {"import a:^(com)->com;", "none"}, {"import a:com;def f():com=^a;", "none"}, {"def g(k:(com)->com):com=skip;def f():com=g(^fn(x)skip);", "none"},
	} {
		u, l := marked(t, x.s)
		want, e := api.Type{}, api.ErrType
		switch x.want {
		case "":
		case "none":
			e = api.ErrNone
		default:
			want, e = typed(t, x.want), api.OK
		}
		if got, f := Type(u, l[0]); !alike(got, want) || f != e {
			t.Errorf("%s: Type: %v, %v, not %v, %v", x.s, got, f, want, e)
		}
		if _, e := Type(u, 0); e != api.ErrNone {
			t.Errorf("%s: Type of 0: %v", x.s, e)
		}
	}
}

// P3.4: the size that the term behind the ^ is given; 0 is ErrNone.
func TestSize(t *testing.T) {
	for _, x := range []struct {
		s    string
		want int
	}{
		{"def f():int 64=^0;", 64}, {"def f():com=^skip;", 1}, {"def f():int 3=skip^;2;", 3}, {"def f():int 3=^skip;0;2;", 1}, {"def f():int 3=skip;^0;2;", 1}, {"def f():int 3=skip;0;^2;", 3},
		{"def f():int 3=^if true then 1 else 2;", 3}, {"def f():int 3=if ^true then 1 else 2;", 2}, {"def f():int 3=if 1^+(0 as 7)then 1 else 2;", 7}, {"def f():int 3=if ^1+(0 as 7)then 1 else 2;", 7}, {"def f():int 3=if true then ^1 else 2;", 3}, {"def f():int 3=if true then 1 else ^2;", 3},
		{"def f():com=^while true do 0;", 1}, {"import i:int 5;def f():com=while ^i do 0;", 5}, {"def f():com=while true do ^0;", 1},
		{"def f():int 3=^new c:7:=0 in 2;", 3}, {"def f():int 3=new c:7:=0 in ^2;", 3}, {"def f():int 3=new c:7:=0 in ^notice c:=6 in 2;", 3}, {"def f():int 3=new c:7:=0 in notice c:=6 in ^2;", 3}, {"def f():int 3=^label l in 1 else 2;", 3}, {"def f():int 3=label l in ^1 else 2;", 3}, {"def f():int 3=label l in 1 else ^2;", 3}, {"def f():int 3=^choose 1 else 2;", 3}, {"def f():int 3=choose ^1 else 2;", 3}, {"def f():int 3=choose 1 else ^2;", 3},
		{"def f(c:cell 7):com=^c:=6;", 1}, {"def f(c:cell 7):com=c:=^6;", 7}, {"def f(c:cell 7):com=c:=^!c;", 7}, {"def f():com=label l in ^jump l else ^hang;", 1},
		{"def f():bool=1 ^or 0;", 2}, {"def f():bool=^1 or 0;", 2}, {"def f():bool=1 and ^0;", 2}, {"def f():bool=not ^0;", 2}, {"import i:int 5;def f():bool=i^=4;", 2}, {"import i:int 5;def f():bool=i=^4;", 5}, {"import i:int 5;def f():bool=^4=i;", 5}, {"import i:int 5;def f():bool=4<^i;", 5}, {"import i:int 5;def f():bool=4^+4<i*i;", 5}, {"def f():int 3=^1-2;", 3}, {"def f():int 3=1*^2;", 3}, {"def f():int 3=1^*2;", 3},
		{"def f():int 3=9 ^as 3;", 3}, {"def f():int 3=^9 as 3;", 3}, {"import i:int 9;def f():int 3=^i as 3;", 9}, {"def f():int 3=9 ^as 5 as 3;", 5}, {"def f():int 3=^9 as 5 as 3;", 5}, {"import i:int 9;def f():int 3=(^8+i)as 3;", 9},
		{"import k:(int 4,com)->int 3;def f():int 3=^k(3,skip);", 3}, {"import k:(int 4,com)->int 3;def f():int 3=k(^3,skip);", 4}, {"import k:(int 4,com)->int 3;def f():int 3=k(3,^skip);", 1}, {"import k:(int 4)->com;import i:int 4;def f():com=k(^i);", 4}, {"def g(x:int 4):com=skip;def h():int 4=3;def f():com=g(^h);", 4},
		{"import k:(cell 4)->com;def f():com=k({get ^3;put v.skip});", 4}, {"import k:(cell 4)->com;def f():com=k({get 3;put v.^skip});", 1}, {"import k:(cell 4)->com;def f():com=k({get 3;put v.if ^v then 0 else 0});", 4}, {"def g(k:(int 4)->int 6):com=skip;def f():com=g(fn(x)^5);", 6}, {"def g(k:(int 6)->int 6):com=skip;def f():com=g(fn(x)^x);", 6},
		// arguments that have no size, and what is no term
		{"import k:(cell 4)->com;import c:cell 4;def f():com=k(^c);", 0}, {"import k:(cell 4)->com;def f():com=new c:4:=0 in k(^c);", 0}, {"def g(k:(int 4)->int 6):com=skip;import j:(int 4)->int 6;def f():com=g(^j);", 0}, {"def g(k:(int 4)->int 6):com=skip;def h(x:int 4):int 6=0;def f():com=g(^h);", 0}, {"def g(k:(int 4)->int 6):com=skip;def f():com=g(^fn(x)1);", 0}, {"def g(k:(int 4)->int 6):com=skip;def f():com=g(fn(^x)1);", 0}, {"import k:(cell 4)->com;def f():com=k(^{get 1;put v.skip});", 0}, {"import k:(cell 4)->com;def f():com=k({get 1;put ^v.skip});", 0}, {"^def f():com=skip;", 0}, {"def f():^com=skip;", 0}, {"def f(^x:com):com=skip;", 0}, {"^import i:int 3;", 0}, {"import i:^(com)->com;", 0},
		// other items may have errors
		{"import i:int 65;def f():com=^skip;export m():com=1;", 1}, {"import i:int 65;def f():com=if ^i then skip else skip;", 65},
	} {
		u, l := marked(t, x.s)
		e := api.OK
		if x.want == 0 {
			e = api.ErrNone
		}
		if got, f := Size(u, l[0]); got != x.want || f != e {
			t.Errorf("%s: Size: %d, %v, not %d, %v", x.s, got, f, x.want, e)
		}
	}
}

// P3.4: the errors of Size, each before the next one.
func TestSizeErrors(t *testing.T) {
	for _, x := range []struct {
		s string
		e api.Errno
	}{
		{"def f(a:com,a:int 65):^com=x;true;", api.ErrNone}, {"^def f():com=x;", api.ErrNone}, {"def g(k:(com)->com):com=skip;def f():com=g(^fn(x)y);", api.ErrNone},
		{"def f(a:com,a:int 65):com=x;^true;skip;", api.ErrTwice}, {"def f(a:com,b:int 65):com=x;^true;skip;", api.ErrRange}, {"def f(a:com,b:int 64):com=x;^true;skip;", api.ErrName}, {"def f(a:com,b:int 64):com=a;true;^skip;", api.ErrType}, {"def f():com=^true;", api.ErrType},
		{"import k:(cell 4)->com;import c:cell 4;def f():com=k(^c);true;skip;", api.ErrType}, {"import k:(cell 4)->com;import c:cell 4;def f():com=k(^c);x;", api.ErrName}, {"import k:(cell 4)->com;import c:cell 4;def f():com=k(^c);export m():com=x;", api.ErrNone}, {"import k:(cell 4)->com;import c:cell 3;def f():com=k(^c);", api.ErrType},
	} {
		u, l := marked(t, x.s)
		if got, e := Size(u, l[0]); got != 0 || e != x.e {
			t.Errorf("%s: Size: %d, %v, not %v", x.s, got, e, x.e)
		}
	}
}

// R4: types are new memory each.
func TestTypesAreNew(t *testing.T) {
	u := tree(t, "import k:(int 2,cell 3)->int 4;export m():com=skip;")
	a, _ := Type(u, 1)
	b, l, _ := Arena(u, "m", false)
	for _, x := range []api.Type{a, b.Ids[0], l[0].Type} {
		if !alike(x, typed(t, "(int 2,cell 3)->int 4")) {
			t.Errorf("%v", x)
		}
		clear(x.Params)
		_ = append(x.Params, api.Base{N: 9})
	}
	if c, _ := Type(u, 1); !alike(c, typed(t, "(int 2,cell 3)->int 4")) {
		t.Errorf("%v", c)
	}
}
