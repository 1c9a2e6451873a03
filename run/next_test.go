package run

import (
	"strings"
	"testing"

	"riposte/api"
)

// around are the imports of most programs here: i has the number 1, b 2, u 3, f 4, g 5, h 6, c 7.
const around = "import i:int 3; import b:bool; import u:com; import f:(com)->com; import g:(cell 3)->com; import h:(int 4,cell 3)->int 4; import c:cell 3; "

// turns are terms of an export with some base, words, and where the conversation stands then.
type turns []struct{ base, term, word, want string }

// try tries turns, with definitions in front of the export.
func (l turns) try(t *testing.T, definitions string) {
	t.Helper()
	for _, x := range l {
		s := around + definitions + "export m():" + x.base + "=" + x.term + ";"
		if u, e := Next(said(t, s, x.word)); e != api.OK || shown(u) != x.want {
			t.Errorf("%s after %q: %s, %v, not %s", x.term, x.word, shown(u), e, x.want)
		}
	}
}

// P6.1: values, each kind of node for itself, how many steps they take, and in which order kids are evaluated.
func TestValues(t *testing.T) {
	turns{
		{"int 5", "3", "0?", "over 0!3; 1, 1, 0"}, {"bool", "true", "0?", "over 0!1; 1, 1, 0"}, {"bool", "false", "0?", "over 0!0; 1, 1, 0"}, {"com", "skip", "0?", "over 0!0; 1, 1, 0"}, {"com", "0", "0?", "over 0!0; 1, 1, 0"},
		{"int 5", "7 as 5", "0?", "over 0!2; 1, 1, 0"}, {"int 64", "999999 as 64", "0?", "over 0!63; 1, 1, 0"}, {"com", "1000000 as 1", "0?", "over 0!0; 1, 1, 0"}, {"int 5", "8 as 5 as 5", "0?", "over 0!3; 1, 2, 0"}, {"bool", "i as 2", "0? 1? 1!2", "over 0!0; 3, 2, 0"}, {"int 64", "i as 64", "0? 1? 1!2", "over 0!2; 3, 2, 0"},
		{"int 3", "2+2", "0?", "over 0!1; 1, 3, 0"}, {"int 3", "1-2", "0?", "over 0!2; 1, 3, 0"}, {"int 3", "0-2", "0?", "over 0!1; 1, 3, 0"}, {"int 3", "2-2", "0?", "over 0!0; 1, 3, 0"}, {"int 3", "2*2", "0?", "over 0!1; 1, 3, 0"}, {"int 64", "63*63", "0?", "over 0!1; 1, 3, 0"}, {"int 64", "63+63", "0?", "over 0!62; 1, 3, 0"}, {"int 64", "0-63", "0?", "over 0!1; 1, 3, 0"}, {"com", "0+0-0*0", "0?", "over 0!0; 1, 7, 0"},
		{"int 3", "i-i", "0?", "asks 1?; 1, 2, 0"}, {"int 3", "i-i", "0? 1? 1!1", "asks 1?; 3, 3, 0"}, {"int 3", "i-i", "0? 1? 1!1 1? 1!2", "over 0!2; 5, 3, 0"}, {"int 3", "!c*i", "0?", "asks 7?; 1, 2, 0"}, {"int 3", "!c*i", "0? 7? 7!2 1? 1!2", "over 0!1; 5, 3, 0"}, {"int 3", "i+i+i", "0? 1? 1!1 1? 1!1 1? 1!0", "over 0!2; 7, 5, 0"},
		{"bool", "i=2", "0? 1? 1!2", "over 0!1; 3, 3, 0"}, {"bool", "i=2", "0? 1? 1!1", "over 0!0; 3, 3, 0"}, {"bool", "2=i", "0?", "asks 1?; 1, 3, 0"}, {"bool", "i<!c", "0? 1? 1!1", "asks 7?; 3, 3, 0"}, {"bool", "i<!c", "0? 1? 1!1 7? 7!2", "over 0!1; 5, 3, 0"}, {"bool", "i<!c", "0? 1? 1!1 7? 7!1", "over 0!0; 5, 3, 0"}, {"bool", "i<!c", "0? 1? 1!2 7? 7!1", "over 0!0; 5, 3, 0"}, {"bool", "u=skip", "0? 3? 3!0", "over 0!1; 3, 3, 0"},
		{"bool", "b or i=0", "0? 2? 2!1", "over 0!1; 3, 2, 0"}, {"bool", "b or i=0", "0? 2? 2!0", "asks 1?; 3, 4, 0"}, {"bool", "b or i=0", "0? 2? 2!0 1? 1!0", "over 0!1; 5, 5, 0"}, {"bool", "b or i=0", "0? 2? 2!0 1? 1!1", "over 0!0; 5, 5, 0"},
		{"bool", "b and i=0", "0? 2? 2!0", "over 0!0; 3, 2, 0"}, {"bool", "b and i=0", "0? 2? 2!1", "asks 1?; 3, 4, 0"}, {"bool", "b and i=0", "0? 2? 2!1 1? 1!0", "over 0!1; 5, 5, 0"}, {"bool", "b and i=0", "0? 2? 2!1 1? 1!2", "over 0!0; 5, 5, 0"},
		{"bool", "not b", "0? 2? 2!1", "over 0!0; 3, 2, 0"}, {"bool", "not b", "0? 2? 2!0", "over 0!1; 3, 2, 0"}, {"bool", "not not true", "0?", "over 0!1; 1, 3, 0"},
		{"int 3", "u;skip;i", "0?", "asks 3?; 1, 2, 0"}, {"int 3", "u;skip;i", "0? 3? 3!0", "asks 1?; 3, 4, 0"}, {"int 3", "u;skip;i", "0? 3? 3!0 1? 1!2", "over 0!2; 5, 4, 0"},
		{"int 3", "if b then 1 else 2", "0? 2? 2!1", "over 0!1; 3, 3, 0"}, {"int 3", "if b then 1 else 2", "0? 2? 2!0", "over 0!2; 3, 3, 0"}, {"int 3", "if i then 1 else i", "0? 1? 1!2", "over 0!1; 3, 3, 0"}, {"int 3", "if i then 1 else i", "0? 1? 1!0", "asks 1?; 3, 3, 0"}, {"com", "if u then hang else u", "0? 3? 3!0", "asks 3?; 3, 3, 0"},
		{"com", "while i do u", "0? 1? 1!0", "over 0!0; 3, 2, 0"}, {"com", "while i do u", "0? 1? 1!2", "asks 3?; 3, 3, 0"}, {"com", "while i do u", "0? 1? 1!2 3? 3!0", "asks 1?; 5, 4, 0"}, {"com", "while i do u", "0? 1? 1!2 3? 3!0 1? 1!1 3? 3!0 1? 1!0", "over 0!0; 11, 6, 0"}, {"com", "while true do hang", "0?", "hangs; 1, 3, 0"},
		{"com", "hang", "0?", "hangs; 1, 1, 0"}, {"com", "u;hang", "0? 3? 3!0", "hangs; 3, 3, 0"}, {"com", "u;hang", "0? 3?", "asks; 2, 2, 0"}, {"com", "hang", "", "asks; 0, 0, 0"},
	}.try(t, "")
}

// P6.1: cells, one's own ones and those of identifiers.
func TestCells(t *testing.T) {
	turns{
		{"int 3", "new a:3:=2 in !a", "0?", "over 0!2; 1, 2, 0"}, {"int 3", "new a:3:=2 in(a:=!a+2;!a)", "0?", "over 0!1; 1, 7, 0"}, {"int 3", "new a:3:=0 in new d:3:=2 in(a:=!d;d:=1;!a-!d)", "0?", "over 0!1; 1, 10, 0"}, {"com", "new a:3:=0 in a:=2", "0?", "over 0!0; 1, 3, 0"}, {"com", "new a:1:=0 in !a", "0?", "over 0!0; 1, 2, 0"},
		{"int 3", "(new a:3:=1 in !a)+(new d:3:=1 in(d:=i;!d))", "0? 1? 1!0", "over 0!1; 3, 8, 0"}, {"int 3", "new n:3:=2 in(while !n do(n:=!n-1;new a:3:=1 in(a:=!a+1;if !a=2 then skip else hang));!n)", "0?", "over 0!0; 1, 39, 0"},
		{"int 3", "!c", "0?", "asks 7?; 1, 1, 0"}, {"int 3", "!c", "0? 7? 7!2", "over 0!2; 3, 1, 0"}, {"com", "c:=i", "0? 1? 1!2", "asks 7=2; 3, 2, 0"}, {"com", "c:=i", "0? 1? 1!2 7=2 7!0", "over 0!0; 5, 2, 0"}, {"com", "c:=2", "0? 7=2", "asks; 2, 2, 0"}, {"com", "c:=2", "0? 7=1", "odd; 1, 2, 0"}, {"com", "c:=2", "0? 7?", "odd; 1, 2, 0"}, {"com", "c:=2", "0? 7=2 7!1", "odd; 2, 2, 0"}, {"com", "c:=!c+1;c:=!c+1", "0? 7? 7!2 7=0 7!0 7? 7!1", "asks 7=2; 7, 9, 0"},
	}.try(t, "")
}

// P6.1: labels, notices and jumps; a jump leads to this time's label.
func TestJumps(t *testing.T) {
	turns{
		{"int 3", "label l in 1 else 2", "0?", "over 0!1; 1, 2, 0"}, {"int 3", "label l in(jump l;0)else 2", "0?", "over 0!2; 1, 4, 0"}, {"int 3", "label l in label k in(jump l;0)else 1 else 2", "0?", "over 0!2; 1, 5, 0"}, {"int 3", "label l in label k in(jump k;0)else(jump l;1)else 2", "0?", "over 0!2; 1, 7, 0"}, {"com", "while true do label l in jump l else hang", "0?", "hangs; 1, 5, 0"}, {"com", "label l in while true do(u;jump l)else u", "0? 3? 3!0", "asks 3?; 3, 7, 0"},
		{"int 3", "new a:3:=0 in(label l in notice a:=2 in jump l else skip;!a)", "0?", "over 0!2; 1, 7, 0"}, {"int 3", "new a:3:=1 in(label l in notice a:=2 in skip else skip;!a)", "0?", "over 0!1; 1, 6, 0"}, {"int 3", "new a:3:=0 in(label l in notice a:=1 in notice a:=2 in(a:=0;jump l)else skip;!a)", "0?", "over 0!1; 1, 11, 0"}, {"int 3", "new a:3:=1 in label l in notice a:=2 in label k in(jump k;0)else !a else 0", "0?", "over 0!1; 1, 7, 0"}, {"int 3", "new a:3:=0 in(label l in(new d:3:=1 in(a:=!d;jump l))else skip;!a)", "0?", "over 0!1; 1, 10, 0"},
		{"int 3", "new a:3:=0 in(label l in notice a:=2 in f(jump l)else skip;!a)", "0? 4? 4.1? 4.1!* 4!*", "over 0!2; 5, 8, 0"}, {"int 3", "new a:3:=0 in(label l in f(notice a:=2 in jump l)else skip;!a)", "0? 4? 4.1? 4.1!* 4!*", "over 0!2; 5, 8, 0"}, {"int 3", "new a:3:=0 in(label l in f(notice a:=2 in jump l)else skip;!a)", "0? 4? 4!0", "over 0!0; 3, 5, 0"},
	}.try(t, "")
	turns{
		{"com", "t(fn(j)t(fn(k)j,hang),u)", "0?", "asks 3?; 1, 12, 0"}, {"com", "t(fn(j)t(fn(k)j,hang),u)", "0? 3? 3!0", "over 0!0; 3, 12, 0"}, {"com", "t(fn(j)t(fn(k)k,u),hang)", "0?", "asks 3?; 1, 12, 0"}, {"com", "t(fn(j)t(fn(k)k,u),hang)", "0? 3? 3!0", "hangs; 3, 13, 0"},
	}.try(t, "def t(q:(com)->com,r:com):com=label l in(q(jump l);hang)else r; ")
}

// P6.1: where the evaluation of a kid ends with a jump, or lost, or hangs, that of the node ends so at once. The # is the kid.
func TestEndsOfKids(t *testing.T) {
	const integer, boolean, com = "0 as 3", "true", "skip"
	definitions := "def d(x:int 3):int 3=x+i; def e(k:(int 3)->int 3):int 3=k(i); def s(a:cell 3):int 3=(a:=1;!a); "
	for _, x := range []struct{ base, term, of, before string }{
		{"int 3", "#", integer, ""}, {"int 3", "#+i", integer, ""}, {"int 3", "i+#", integer, " 1? 1!2"}, {"int 3", "#-i", integer, ""}, {"int 3", "i-#", integer, " 1? 1!0"}, {"int 3", "#*i", integer, ""}, {"int 3", "i*#", integer, " 1? 1!0"}, {"int 3", "# as 3", integer, ""}, {"int 3", "i+i+#+i", integer, " 1? 1!2 1? 1!2"}, {"int 3", "h(0,c)as 3+#", integer, " 6? 6!1"},
		{"bool", "#=i", integer, ""}, {"bool", "i=#", integer, " 1? 1!0"}, {"bool", "#<i", integer, ""}, {"bool", "i<#", integer, " 1? 1!0"}, {"bool", "# or b", boolean, ""}, {"bool", "b or #", boolean, " 2? 2!0"}, {"bool", "# and b", boolean, ""}, {"bool", "b and #", boolean, " 2? 2!1"}, {"bool", "not #", boolean, ""},
		{"int 3", "#;i", com, ""}, {"int 3", "u;#;i", com, " 3? 3!0"}, {"int 3", "u;u;#", integer, " 3? 3!0 3? 3!0"}, {"int 3", "if # then i else i", integer, ""}, {"int 3", "if b then # else i", integer, " 2? 2!1"}, {"int 3", "if b then i else #", integer, " 2? 2!0"}, {"com", "while # do u", integer, ""}, {"com", "while b do #", com, " 2? 2!1"}, {"com", "while b do if i then # else skip", com, " 2? 2!1 1? 1!0 2? 2!1 1? 1!2"},
		{"int 3", "new a:3:=1 in #", integer, ""}, {"com", "new a:3:=1 in a:=#", integer, ""}, {"com", "c:=#", integer, ""}, {"com", "g({get i;put v.skip});c:=#", integer, " 5? 5!0"}, {"int 3", "label k in # else i", integer, ""}, {"int 3", "label k in(jump k;0)else #", integer, ""}, {"int 3", "choose # else i", integer, ""}, {"int 3", "new a:3:=0 in(notice a:=1 in #)", integer, ""},
		{"int 3", "d(#)", integer, ""}, {"int 3", "e(fn(z)#)", integer, ""}, {"int 3", "e(fn(z)z+#)", integer, " 1? 1!2"}, {"int 3", "s({get #;put v.u})", integer, " 3? 3!0"}, {"int 3", "s({get i;put v.#})", com, ""}, {"int 3", "s({get i;put v.(u;if v=1 then # else u)})", com, " 3? 3!0"},
	} {
		instead := map[string]string{"int 3": "0", "bool": "false", "com": "skip"}[x.base]
		for _, y := range []struct{ kid, words, want string }{
			{"(jump out;" + x.of + ")", "", "asks 7=1;"}, {"(f(jump out);" + x.of + ")", " 4? 4.1? 4.1!* 4!*", "asks 7=1;"}, {"(hang;" + x.of + ")", "", "hangs;"}, {"(u;" + x.of + ")", " 3? 3!*", "over 0!*;"},
		} {
			s := around + definitions + "export m():" + x.base + "=label out in(" + strings.ReplaceAll(x.term, "#", y.kid) + ")else(c:=1;" + instead + ");"
			if u := next(t, said(t, s, "^0?"+x.before+y.words)); !strings.HasPrefix(shown(u), y.want) {
				t.Errorf("%s with %s: %s, not %s", x.term, y.kid, shown(u), y.want)
			}
		}
	}
}

// P6.1: identifiers are asked, and their arguments, by the other one, as often as it likes.
func TestAsking(t *testing.T) {
	turns{
		{"com", "f(u)", "0?", "asks 4?; 1, 1, 0"}, {"com", "f(u)", "0? 4?", "asks; 2, 1, 0"}, {"com", "f(u)", "0? 4? 4!0", "over 0!0; 3, 1, 0"}, {"com", "f(u)", "0? 4? 4.1?", "asks 3?; 3, 2, 0"}, {"com", "f(u)", "0? 4? 4.1? 3? 3!0", "asks 4.1!0; 5, 2, 0"}, {"com", "f(u)", "0? 4? 4.1? 3? 3!0 4.1!0 4.1? 3? 3!0 4.1!0", "asks; 10, 3, 0"}, {"com", "f(u)", "0? 4? 4.1? 3? 3!0 4.1!0 4.1? 3? 3!0 4.1!0 4!0", "over 0!0; 11, 3, 0"}, {"com", "f(f(u))", "0? 4? 4.1? 4? 4.1?", "asks 3?; 5, 3, 0"},
		{"int 4", "h(i as 4+3,c)", "0? 6? 6.1? 1? 1!2", "asks 6.1!1; 5, 5, 0"}, {"int 4", "h(i as 4+3,c)", "0? 6? 6.2?", "asks 7?; 3, 1, 0"}, {"int 4", "h(i as 4+3,c)", "0? 6? 6.2? 7? 7!2", "asks 6.2!2; 5, 1, 0"}, {"int 4", "h(i as 4+3,c)", "0? 6? 6.2=1 7=1 7!0", "asks 6.2!0; 5, 1, 0"}, {"int 4", "h(i as 4+3,c)", "0? 6? 6!3", "over 0!3; 3, 1, 0"}, {"int 4", "h(h(0,c),c)", "0? 6? 6.1? 6? 6.1? 6.1!0 6!3", "asks 6.1!3; 7, 3, 0"},
		{"com", "new a:3:=1 in g(a)", "0? 5? 5.1?", "asks 5.1!1; 3, 2, 0"}, {"com", "new a:3:=1 in g(a)", "0? 5? 5.1=2", "asks 5.1!0; 3, 2, 0"}, {"com", "new a:3:=1 in g(a)", "0? 5? 5.1=2 5.1!0 5.1?", "asks 5.1!2; 5, 2, 0"}, {"com", "new a:3:=1 in(g(a);c:=!a)", "0? 5? 5.1=2 5.1!0 5!0", "asks 7=2; 5, 5, 0"}, {"com", "g(c)", "0? 5? 5.1=2", "asks 7=2; 3, 1, 0"}, {"com", "g(c)", "0? 5? 5.1?", "asks 7?; 3, 1, 0"},
		{"com", "g({get i;put v.c:=v+1})", "0? 5? 5.1?", "asks 1?; 3, 2, 0"}, {"com", "g({get i;put v.c:=v+1})", "0? 5? 5.1? 1? 1!2", "asks 5.1!2; 5, 2, 0"}, {"com", "g({get i;put v.c:=v+1})", "0? 5? 5.1=2", "asks 7=0; 3, 5, 0"}, {"com", "g({get i;put v.c:=v+1})", "0? 5? 5.1=2 7=0 7!0", "asks 5.1!0; 5, 5, 0"}, {"com", "g({get i;put v.g({get v;put w.c:=v-w})})", "0? 5? 5.1=2 5? 5.1=1", "asks 7=1; 5, 6, 0"}, {"com", "g({get i;put v.g({get v;put w.c:=v-w})})", "0? 5? 5.1=2 5? 5.1?", "asks 5.1!2; 5, 3, 0"},
		// by a jump
		{"int 3", "label l in(f(jump l);0)else 1", "0? 4? 4.1?", "asks 4.1!*; 3, 4, 0"}, {"int 3", "label l in(f(jump l);0)else 1", "0? 4? 4.1? 4.1!*", "asks; 4, 4, 0"}, {"int 3", "label l in(f(jump l);0)else 1", "0? 4? 4.1? 4.1!* 4!*", "over 0!1; 5, 5, 0"}, {"int 3", "label l in(f(u;jump l);0)else 1", "0? 4? 4.1? 3? 3!0 4.1!* 4!*", "over 0!1; 7, 7, 0"}, {"int 3", "f(label l in jump l else u);2", "0? 4? 4.1?", "asks 3?; 3, 5, 0"}, {"int 3", "label l in(f(f(jump l));0)else 1", "0? 4? 4.1? 4? 4.1? 4.1!*", "asks; 6, 5, 0"}, {"int 3", "label l in(f(f(jump l));0)else 1", "0? 4? 4.1? 4? 4.1? 4.1!* 4!*", "asks 4.1!*; 7, 5, 0"}, {"int 3", "label l in(f(f(jump l));0)else 1", "0? 4? 4.1? 4? 4.1? 4.1!* 4!* 4.1!* 4!*", "over 0!1; 9, 6, 0"}, {"int 3", "f(label l in f(jump l)else u);2", "0? 4? 4.1? 4? 4.1? 4.1!* 4!*", "asks 3?; 7, 6, 0"},
		{"int 3", "label l in(g({get(jump l;0);put v.jump l});0)else 1", "0? 5? 5.1?", "asks 5.1!*; 3, 5, 0"}, {"int 3", "label l in(g({get(jump l;0);put v.jump l});0)else 1", "0? 5? 5.1=1", "asks 5.1!*; 3, 4, 0"}, {"int 3", "label l in(g({get(jump l;0);put v.jump l});0)else 1", "0? 5? 5.1=1 5.1!* 5!*", "over 0!1; 5, 5, 0"}, {"int 3", "label l in(f(jump l);0)else 1", "0? 4? 4.1? 4.1!* 4!0", "odd; 4, 4, 0"}, {"int 3", "label l in(f(jump l);0)else 1", "0? 4? 4.1? 4.1!* 4.1?", "odd; 4, 4, 0"},
		// lost
		{"int 3", "i", "^0? 1? 1!*", "over 0!*; 3, 1, 0"}, {"int 3", "i", "0? 1? 1!*", "odd; 2, 1, 0"}, {"int 3", "i", "^0? 1? 1!* 0!*", "over; 4, 1, 0"}, {"com", "c:=1", "^0? 7=1 7!*", "over 0!*; 3, 2, 0"}, {"com", "label l in(f(u);u)else u", "^0? 4? 4!*", "over 0!*; 3, 3, 0"}, {"com", "label l in(f(u);u)else u", "^0? 4? 4.1? 3? 3!*", "asks 4.1!*; 5, 4, 0"}, {"com", "label l in(f(u);u)else u", "^0? 4? 4.1? 3? 3!* 4.1!*", "asks; 6, 4, 0"}, {"com", "label l in(f(u);u)else u", "^0? 4? 4.1? 3? 3!* 4.1!* 4!*", "over 0!*; 7, 4, 0"}, {"com", "label l in f(jump l)else f(u)", "^0? 4? 4.1? 4.1!* 4!* 4? 4!*", "over 0!*; 7, 4, 0"}, {"com", "g(c)", "^0? 5? 5.1=1 7=1 7!*", "asks 5.1!*; 5, 1, 0"}, {"int 4", "h(0,c)", "^0? 6? 6.1? 6.1!0 6!*", "over 0!*; 5, 2, 0"}, {"com", "f(f(u))", "^0? 4? 4.1? 4? 4.1? 3? 3!* 4.1!* 4!* 4.1!* 4!*", "over 0!*; 11, 3, 0"},
		{"com", "f(new a:3:=0 in notice a:=1 in u)", "^0? 4? 4.1? 3? 3!* 4.1!* 4!*", "over 0!*; 7, 4, 0"},
	}.try(t, "")
}

// P6.1: definitions, and what their params stand for: an argument is evaluated each time, a name of something else is no more than what it stands for.
func TestDefinitions(t *testing.T) {
	turns{
		{"int 3", "one", "0?", "over 0!1; 1, 2, 0"}, {"int 3", "one+one", "0?", "over 0!2; 1, 5, 0"}, {"int 3", "twice(1)", "0?", "over 0!2; 1, 6, 0"}, {"int 3", "twice(i)", "0? 1? 1!1 1? 1!0", "over 0!1; 5, 6, 0"}, {"int 3", "twice(twice(i))", "0? 1? 1!1 1? 1!1 1? 1!1 1? 1!1", "over 0!1; 9, 16, 0"}, {"int 3", "drop(hang)", "0?", "over 0!2; 1, 2, 0"}, {"int 3", "twice(one)", "0?", "over 0!2; 1, 8, 0"}, {"com", "f(drop(u)as 1)", "0? 4? 4.1?", "asks 4.1!0; 3, 4, 0"},
		{"com", "inc(c)", "0? 7? 7!2", "asks 7=0; 3, 5, 0"}, {"com", "inc2(c)", "0? 7? 7!2 7=0 7!0 7? 7!0", "asks 7=1; 7, 12, 0"}, {"int 3", "new a:3:=1 in(inc2(a);!a)", "0?", "over 0!0; 1, 15, 0"}, {"com", "inc({get i;put v.g({get v;put w.skip})})", "0? 1? 1!1 5? 5.1?", "asks 5.1!2; 5, 8, 0"}, {"com", "new a:3:=1 in(inc({get!a;put v.a:=v*2});c:=!a)", "0?", "asks 7=1; 1, 14, 0"}, {"com", "pass(c)", "0? 5? 5.1=1", "asks 7=1; 3, 2, 0"}, {"com", "new a:3:=1 in(pass(a);c:=!a)", "0? 5? 5.1=2 5.1!0 5!0", "asks 7=2; 5, 6, 0"}, {"com", "pass({get i;put v.u})", "0? 5? 5.1?", "asks 1?; 3, 3, 0"}, {"com", "pass({get i;put v.u})", "0? 5? 5.1=0 3? 3!0", "asks 5.1!0; 5, 3, 0"},
		{"com", "run(f,u)", "0?", "asks 4?; 1, 3, 0"}, {"com", "run(f,u)", "0? 4? 4.1?", "asks 3?; 3, 5, 0"}, {"com", "run(fn(z)z,u)", "0? 3? 3!0", "asks 3?; 3, 10, 0"}, {"com", "run(fn(z)z,u)", "0? 3? 3!0 3? 3!0", "over 0!0; 5, 10, 0"}, {"com", "run(both,u)", "0?", "asks 3?; 1, 7, 0"}, {"com", "run(both,u)", "0? 3? 3!0", "asks 3?; 3, 10, 0"}, {"com", "run2(f,u)", "0? 4? 4.1?", "asks 3?; 3, 7, 0"}, {"com", "run2(fn(z)f(z),u)", "0? 4? 4.1?", "asks 3?; 3, 9, 0"},
		{"com", "on(fn(n,a)(a:=n;c:=!a))", "0?", "asks 7=2; 1, 9, 0"}, {"com", "on(fn(n,a)(pass(a);c:=n))", "0? 5? 5.1? 5.1!0 5!0", "asks 7=2; 5, 9, 0"}, {"com", "on(set)", "0?", "over 0!0; 1, 6, 0"}, {"com", "on(fn(n,a)set(n,a))", "0?", "over 0!0; 1, 8, 0"},
	}.try(t, "def one():int 3=1; def twice(x:int 3):int 3=x+x; def drop(x:com):int 3=2; def inc(a:cell 3):com=a:=!a+1; def inc2(k:cell 3):com=inc(k);inc(k); def pass(k:cell 3):com=g(k); def both(x:com):com=x;x; def run(k:(com)->com,x:com):com=k(x);k(x); def run2(k:(com)->com,x:com):com=run(k,x); def on(k:(int 3,cell 3)->com):com=new o:3:=0 in k(2,o); def set(n:int 3,a:cell 3):com=a:=n; ")
}

// P6.1: where a word is odd, and where it ends.
func TestFollowing(t *testing.T) {
	turns{
		{"int 3", "i", "", "asks; 0, 0, 0"}, {"int 3", "i", "1?", "odd; 0, 0, 0"}, {"int 3", "i", "0!0", "odd; 0, 0, 0"}, {"int 3", "i", "0=0", "odd; 0, 0, 0"}, {"int 3", "i", "0? 0?", "odd; 1, 1, 0"}, {"int 3", "i", "0? 0!0", "odd; 1, 1, 0"}, {"int 3", "i", "0? 2?", "odd; 1, 1, 0"}, {"int 3", "i", "0? 1?", "asks; 2, 1, 0"}, {"int 3", "i", "0? 1? 2!0", "odd; 2, 1, 0"}, {"int 3", "i", "0? 1? 1!3", "odd; 2, 1, 0"}, {"int 3", "i", "0? 1? 1?", "odd; 2, 1, 0"}, {"int 3", "i", "0? 1? 4.1?", "odd; 2, 1, 0"}, {"int 3", "i", "0? 1? 1.1?", "odd; 2, 1, 0"}, {"int 3", "i", "0? 1? 1!2 0!2", "over; 4, 1, 0"}, {"int 3", "i", "0? 1? 1!2 0!1", "odd; 3, 1, 0"}, {"int 3", "i", "0? 1? 1!2 1?", "odd; 3, 1, 0"}, {"int 3", "i", "0? 1? 1!2 0!* 0!2", "odd; 3, 1, 0"}, {"int 3", "i", "0? 1? 1!2 0!2 0?", "odd; 4, 1, 0"}, {"int 3", "i", "0? 1? 1!2 0!2 0!2 1?", "odd; 4, 1, 0"}, {"int 3", "i", "0? 1? 1!3 0!0 0!0", "odd; 2, 1, 0"},
		{"com", "f(u);u", "0? 4? 1.1?", "odd; 2, 2, 0"}, {"com", "f(u);u", "0? 4? 4.2?", "odd; 2, 2, 0"}, {"com", "f(u);u", "0? 4? 4.1=0", "odd; 2, 2, 0"}, {"com", "f(u);u", "0? 4? 4.1? 4.1!0", "odd; 3, 3, 0"}, {"com", "f(u);u", "0? 4? 4.1? 3? 4!0", "odd; 4, 3, 0"}, {"com", "f(u);u", "0? 4? 4.1? 3? 3!0 4.1!*", "odd; 5, 3, 0"}, {"com", "f(u);u", "0? 4? 4.1? 3? 3!0 4.1!0 3!0", "odd; 6, 3, 0"},
		{"com", "u;hang", "0? 3? 3!0 0!0", "odd; 3, 3, 0"}, {"com", "u;hang", "0? 3? 3!0 3? 1?", "odd; 3, 3, 0"}, {"com", "u;hang", "0? 3? 3!1", "odd; 2, 2, 0"}, {"com", "u;while true do skip", "0? 3?", "asks; 2, 2, 0"}, {"com", "u;while true do skip", "0? 3? 3!1", "odd; 2, 2, 0"}, {"com", "u;while true do skip", "0? 4? 3!0", "odd; 1, 2, 0"},
	}.try(t, "")
	for _, m := range []api.Move{{}, {Kind: 4}, {Id: 1}, {Id: 1, Kind: api.MoveAsk, N: 1}, {Id: -1, Kind: api.MoveTell}, {Id: 1, Arg: -1, Kind: api.MoveTell}, {Id: 1, Kind: api.MoveTell, N: -2}, {Id: 1, Kind: api.MoveTell, N: 1<<63 - 1}, {Id: 1, Kind: api.MovePut}, {Id: 1 << 62, Arg: 1 << 62, Kind: 255, N: -1 << 63}} {
		for at, w := range []string{"", "0?", "0? 1?", "0? 1? 1!0", "0? 1? 1!0 0!0"} {
			if u := next(t, with(said(t, around+"export m():int 3=i;", w), m, m)); u.State != api.StateOdd || u.At != at || len(u.Moves) > 0 {
				t.Errorf("%v behind %q: %s", m, w, shown(u))
			}
		}
	}
}

// P6.1: picks are taken one after the other; each that is even leads to the first kid.
func TestPicks(t *testing.T) {
	const three = "(choose 0 else 1)+(choose 0 else 2)+(choose 0 else 4)"
	for _, x := range []struct {
		term, word string
		picks      []int
		want       string
	}{
		{three, "0?", nil, "over 0!0; 1, 8, 3"}, {three, "", []int{1}, "asks; 0, 0, 0"}, {three, "0?", []int{1}, "over 0!1; 1, 8, 3"}, {three, "0?", []int{0, 1}, "over 0!2; 1, 8, 3"}, {three, "0?", []int{1, 0, 1}, "over 0!5; 1, 8, 3"}, {three, "0?", []int{1, 1, 1, 1, 1}, "over 0!7; 1, 8, 3"}, {three, "0?", []int{-1, -2, 1<<63 - 1}, "over 0!5; 1, 8, 3"}, {three, "0?", []int{-1 << 63, 7, 2}, "over 0!2; 1, 8, 3"},
		{"choose i as 8 else 3", "0?", nil, "asks 1?; 1, 3, 1"}, {"choose i as 8 else 3", "0?", []int{1}, "over 0!3; 1, 2, 1"}, {"choose i as 8 else 3", "0? 1? 1!2", []int{0}, "over 0!2; 3, 3, 1"}, {"choose i as 8 else 3", "0? 1? 1!2", []int{1}, "odd; 1, 2, 1"}, {"i as 8+(choose 3 else 4)", "0?", []int{1}, "asks 1?; 1, 3, 0"}, {"choose 1 else choose 2 else choose 3 else 4", "0?", []int{1, 1, 1}, "over 0!4; 1, 4, 3"}, {"choose(hang;0)else(choose 1 else 2)", "0?", []int{0, 1}, "hangs; 1, 3, 1"},
		{"while choose false else true do skip;5", "0?", []int{1, 1, 1}, "over 0!5; 1, 14, 4"},
	} {
		if u := next(t, said(t, around+"export m():int 8="+x.term+";", x.word, x.picks...)); shown(u) != x.want {
			t.Errorf("%s after %q with %v: %s, not %s", x.term, x.word, x.picks, shown(u), x.want)
		}
	}
	many := said(t, "export m():com=new n:64:=0 in while !n<63 do(n:=!n+1;choose choose choose choose skip else hang else hang else hang else hang);", "0?", make([]int, api.MaxPicks)...)
	if u := next(t, many); u.State != api.StateOver || u.Picks != 63*4 {
		t.Errorf("more picks than there are: %s", shown(u))
	}
	many.Picks[api.MaxPicks-1] = 1
	if u := next(t, many); u.State != api.StateHangs || u.Picks != api.MaxPicks {
		t.Errorf("the last pick: %s", shown(u))
	}
}

// P6.1: the identifiers are all imports, whose items stand behind the export, too, then the params of the export; names are those of its own item.
func TestIdentifiers(t *testing.T) {
	const s = "import a:int 5; def d(x:int 3):int 3=x; export o(y:bool):bool=y; export m(x:int 3,k:(cell 2)->int 3,z:cell 3):int 3=d(x)+k({get true;put v.z:=v as 3})+!z; import q:bool; export n(x:int 3):int 3=x;"
	for _, x := range []struct{ export, word, want string }{
		{"m", "0?", "asks 3?; 1, 5, 0"}, {"m", "0? 3? 3!1", "asks 4?; 3, 6, 0"}, {"m", "0? 3? 3!1 4? 4.1?", "asks 4.1!1; 5, 7, 0"}, {"m", "0? 3? 3!1 4? 4.1=1", "asks 5=1; 5, 9, 0"}, {"m", "0? 3? 3!1 4? 4!1", "asks 5?; 5, 7, 0"}, {"m", "0? 3? 3!1 4? 4!1 5? 5!2", "over 0!1; 7, 7, 0"}, {"o", "0?", "asks 3?; 1, 1, 0"}, {"n", "0?", "asks 3?; 1, 1, 0"}, {"o", "0? 3? 3!1", "over 0!1; 3, 1, 0"},
	} {
		y := said(t, s, x.word)
		y.Export = x.export
		if u := next(t, y); shown(u) != x.want {
			t.Errorf("%s after %q: %s, not %s", x.export, x.word, shown(u), x.want)
		}
	}
}

// P6.1, P1: what chapter 3 has no error for and chapter 4 has, a cell as the result of a call, is told like an integer.
func TestCellAsResult(t *testing.T) {
	const s = "import k:(int 2)->cell 3; export m():int 3=k(1)+1;"
	for w, want := range map[string]string{"": "asks; 0, 0, 0", "0?": "asks 1?; 1, 2, 0", "0? 1? 1.1?": "asks 1.1!1; 3, 3, 0", "0? 1? 1!2": "over 0!0; 3, 3, 0", "0? 1? 1!3": "odd; 2, 2, 0", "0? 1=1": "odd; 1, 2, 0"} {
		if u := next(t, said(t, s, w)); shown(u) != want {
			t.Errorf("%q: %s, not %s", w, shown(u), want)
		}
	}
	w, u, e := Talk(said(t, s, ""), []int{0, 3, 1})
	if texts(w) != "0? 1? 1.1? 1.1!1 1!1 0!2" || u.State != api.StateOver || e != api.OK {
		t.Errorf("Talk: %s, %s, %v", texts(w), shown(u), e)
	}
}
