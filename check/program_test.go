package check

import (
	"slices"
	"strings"
	"testing"

	"riposte/api"
	"riposte/parse"
)

// P3.5: effects of an item by itself.
func TestEffects(t *testing.T) {
	for _, x := range []struct {
		s    string
		want int
	}{
		{"import i:cell 2;", 0}, {"def f():com=skip;", 0}, {"def f(c:cell 2):com=skip;", 0}, {"export m():bool=not true and 1=(2 as 3)or(if false then 1-1*2+1<(1 as 2)else true);", 0}, {"def f():com=label l in skip else skip;", 0}, {"import k:(cell 2)->com;def f(c:cell 2):com=k(c);k({get 1;put v.skip});", 0}, {"def g(k:(cell 2)->com):com=skip;def f():com=g(fn(c)skip);", 0},
		{"def f():com=new c:1:=0 in skip;", api.EffCells}, {"def f(c:cell 2):bool=!c;", api.EffCells}, {"def f(c:cell 2):com=c:=1;", api.EffCells}, {"def f():com=notice c:=1 in skip;", api.EffCells},
		{"def f():com=label l in jump l else skip;", api.EffJumps}, {"def f():com=choose skip else skip;", api.EffChoices}, {"def f():com=while true do skip;", api.EffLoops}, {"def f():com=hang;", api.EffHangs},
		{"import k:(com)->com;def f():com=k(hang);", api.EffHangs}, {"import k:(cell 2)->com;def f():com=k({get(choose 1 else 0);put v.skip});", api.EffChoices}, {"import k:(cell 2)->com;def f():com=k({get 1;put v.while true do skip});", api.EffLoops}, {"def g(k:(com)->com):com=skip;def f():com=g(fn(x)jump l);", api.EffJumps},
		{"export m(c:cell 2):com=while !c do choose hang else jump l;", api.EffCells | api.EffJumps | api.EffChoices | api.EffLoops | api.EffHangs},
	} {
		u := tree(t, x.s)
		items, _ := parse.Kids(u, 0)
		if got, e := Effects(u, items[len(items)-1]); got != x.want || e != api.OK {
			t.Errorf("%s: Effects: %d, %v, not %d", x.s, got, e, x.want)
		}
	}
}

// P3.5: what items use, and the effects that they have of this.
func TestReach(t *testing.T) {
	u := tree(t, "import i:com;"+
		"def a():com=hang;"+
		"def b(k:(com)->com):com=choose a else a;"+
		"def c(x:com):com=while true do x;"+
		"export d():com=b(c);"+
		"def e():com=c(i);f;"+
		"def f(a:com):com=a;"+
		"def g():com=label a in jump a else skip;"+
		"export h():com=g(g(e));d;"+
		"def o(b:cell 1):com=b:=0;o(b);")
	hang, choice, loop, jump, cells := api.EffHangs, api.EffChoices, api.EffLoops, api.EffJumps, api.EffCells
	for name, x := range map[string]struct {
		reach   string
		effects int
	}{
		"i": {"", 0}, "a": {"", hang}, "b": {"a", choice | hang}, "c": {"", loop}, "d": {"a b c", choice | hang | loop}, "e": {"c", loop}, "f": {"", 0}, "g": {"", jump}, "h": {"c e g", loop | jump}, "o": {"", cells},
	} {
		n, _ := parse.Find(u, name)
		l, e := Reach(u, n)
		effects, f := Effects(u, n)
		if strings.Join(names(u, l), " ") != x.reach || e != api.OK || !slices.IsSorted(l) || effects != x.effects || f != api.OK {
			t.Errorf("%s: Reach: %v, %v; Effects: %d, %v", name, names(u, l), e, effects, f)
		}
	}
	for n := range u.Nodes {
		up, _ := parse.Up(u, n)
		effects, e := Effects(u, n)
		l, f := Reach(u, n)
		if item := n > 0 && up == 0; (e == api.OK) != item || (f == api.OK) != item || !item && (effects != 0 || l != nil || e != api.ErrNone || f != api.ErrNone) {
			t.Errorf("%d: Effects: %d, %v; Reach: %v, %v", n, effects, e, l, f)
		}
	}
}

// P3.5: items that use the one before twice each.
func TestReachOfMany(t *testing.T) {
	s := "def a0():com=skip;"
	for i := 1; i < 23; i++ {
		s += strings.NewReplacer("#", string(rune('a'+i)), "@", string(rune('a'+i-1))).Replace("def #0():com=@0;@0;")
	}
	u := tree(t, s+"export m():com=w0;")
	n, _ := parse.Find(u, "m")
	if l, e := Reach(u, n); len(l) != 23 || e != api.OK {
		t.Errorf("Reach: %v, %v", l, e)
	}
}

// P3.6: the identifiers of an export.
func TestArena(t *testing.T) {
	u := tree(t, "import i:bool;def d(x:(com)->com):com=skip;export m(k:(int 3,cell 4)->int 5,c:cell 6):int 7=2;import late:(com)->com;export n():com=skip;")
	for _, x := range []struct {
		export, names string
		types         []string
		root          int
	}{
		{"m", "i late k c", []string{"bool", "(com)->com", "(int 3,cell 4)->int 5", "cell 6"}, 7},
		{"n", "i late", []string{"bool", "(com)->com"}, 1},
	} {
		for _, jumps := range []bool{false, true} {
			a, l, e := Arena(u, x.export, jumps)
			if e != api.OK || a.Root != (api.Base{N: x.root}) || a.Jumps != jumps || len(a.Ids) != len(x.types) || len(l) != len(x.types) {
				t.Fatalf("Arena of %s: %v, %v, %v", x.export, a, l, e)
			}
			for i, s := range x.types {
				want := typed(t, s)
				if !alike(a.Ids[i], want) || !alike(l[i].Type, want) || l[i].Name != strings.Fields(x.names)[i] {
					t.Errorf("Arena of %s: %v, %v", x.export, a, l)
				}
			}
		}
	}
	if a, l, e := Arena(tree(t, "export m():com=skip;"), "m", false); len(a.Ids) != 0 || len(l) != 0 || e != api.OK {
		t.Errorf("Arena without identifiers: %v, %v, %v", a, l, e)
	}
}

// P3.6: errors of Arena, each before the next one, and its limits.
func TestArenaErrors(t *testing.T) {
	imports := func(n int) string {
		s := ""
		for i := range n {
			s += "import i" + string(rune('0'+i)) + ":com;"
		}
		return s
	}
	five, six := "(com,com,com,com,com)->com", "(com,com,com,com,com,com)->com"
	for _, x := range []struct {
		s, export string
		e         api.Errno
	}{
		{imports(9) + "export m():com=1;", "x", api.ErrType}, {imports(9) + "export m():com=skip;export n():com=x;", "m", api.ErrName}, {"import a:int 65;export m():com=skip;", "m", api.ErrRange}, {"import m:com;export m():com=skip;", "m", api.ErrTwice},
		{imports(9) + "export m():com=skip;", "x", api.ErrNone}, {"def m():com=skip;", "m", api.ErrNone}, {"import m:com;", "m", api.ErrNone}, {"export m(a:com):com=skip;", "a", api.ErrNone}, {"export m():com=skip;", "", api.ErrNone}, {"", "m", api.ErrNone}, {"export m():com=skip;", "M", api.ErrNone},
		{imports(8) + "export m():com=skip;", "m", api.OK}, {imports(9) + "export m():com=skip;", "m", api.ErrLimit}, {imports(8) + "export m(a:com):com=skip;", "m", api.ErrLimit}, {imports(7) + "export m(a:com):com=skip;", "m", api.OK}, {"export m(a:com,b:com,c:com,d:com,e:com,f:com,g:com,h:com):com=skip;", "m", api.OK}, {"export m(a:com,b:com,c:com,d:com,e:com,f:com,g:com,h:com,i:com):com=skip;", "m", api.ErrLimit}, {imports(8) + "export m():com=skip;export n(a:com):com=skip;", "m", api.OK}, {imports(8) + "def f(a:com,b:com):com=skip;export m():com=skip;", "m", api.OK},
		{"import a:" + five + ";export m():com=skip;", "m", api.OK}, {"import a:" + six + ";export m():com=skip;", "m", api.ErrLimit}, {"import a:com;export m():com=skip;import b:" + six + ";", "m", api.ErrLimit}, {"export m(a:" + five + "):com=skip;", "m", api.OK}, {"export m(a:com,b:" + six + "):com=skip;", "m", api.ErrLimit}, {"def f(a:" + six + "):com=skip;export m():com=skip;", "m", api.OK}, {"export m():com=skip;export n(a:" + six + "):com=skip;", "m", api.OK},
	} {
		a, l, e := Arena(tree(t, x.s), x.export, true)
		if e != x.e || e != api.OK && (a.Ids != nil || a.Root != (api.Base{}) || a.Jumps || l != nil) {
			t.Errorf("%s: Arena of %s: %v, %v, %v, not %v", x.s, x.export, a, l, e, x.e)
		}
	}
}

// P3.7: the declaration behind the ^ has the name z then.
func TestRename(t *testing.T) {
	for _, x := range []struct{ s, want string }{
		{"^import i:com;export m():com=i;i;", "import z:com;export m():com=z;z;"},
		{"^import k:(com)->com;def g(j:(com)->com):com=j(skip);export m():com=g(k);k(skip);", "import z:(com)->com;def g(j:(com)->com):com=j(skip);export m():com=g(z);z(skip);"},
		{"^def d(x:com):com=x;export m():com=d(d(skip));", "def z(x:com):com=x;export m():com=z(z(skip));"},
		{"^export m():com=skip;export n():com=skip;", "export z():com=skip;export n():com=skip;"},
		{"def d(x:com):com=x;export m(^x:com):com=d(x);", "def d(x:com):com=x;export m(z:com):com=d(z);"},
		{"export m():com=(new c:2:=0 in c:=!c);^new d:2:=0 in(d:=!d;notice d:=1 in skip);", "export m():com=(new c:2:=0 in c:=!c);new z:2:=0 in(z:=!z;notice z:=1 in skip);"},
		{"export m():com=^label l in(jump l;label k in jump l else jump l)else skip;", "export m():com=label z in(jump z;label k in jump z else jump z)else skip;"},
		{"def g(k:(com,com)->com):com=skip;export m():com=g(fn(x,^y)(x;y));", "def g(k:(com,com)->com):com=skip;export m():com=g(fn(x,z)(x;z));"},
		{"def g(k:cell 2):com=skip;export m():com=g({get 1;put ^v.if v then skip else skip});", "def g(k:cell 2):com=skip;export m():com=g({get 1;put z.if z then skip else skip});"},
		{"import i:com;export m(^x:com):com=x;export n(z:com):com=z;", "import i:com;export m(z:com):com=z;export n(z:com):com=z;"},
		{"^import z:com;", "import z:com;"},
	} {
		u, l := marked(t, x.s)
		before := slices.Clone(u.Nodes)
		got, e := Rename(u, l[0], "z")
		want, _ := parse.Print(tree(t, x.want))
		if s, _ := parse.Print(got); s != want || e != api.OK {
			t.Errorf("%s: Rename: %s, %v", x.s, s, e)
		}
		for n, y := range got.Nodes {
			if y.Text = u.Nodes[n].Text; y != before[n] || u.Nodes[n] != before[n] {
				t.Errorf("%s: Rename: the node %d is %v", x.s, n, got.Nodes[n])
			}
		}
	}
}

// P3.7: errors of Rename, each before the next one.
func TestRenameErrors(t *testing.T) {
	for _, x := range []struct {
		s, name string
		e       api.Errno
	}{
		{"import i:com;export m():com=^x;", "if", api.ErrName}, {"^import i:com;export m():com=1;", "m", api.ErrType}, {"^import i:int 65;", "z", api.ErrRange}, {"^import i:com;import i:com;", "z", api.ErrTwice},
		{"export m():com=^skip;", "if", api.ErrNone}, {"export m():^com=skip;", "z", api.ErrNone}, {"import i:com;export m():com=^i;", "m", api.ErrNone}, {"export m():com=label l in ^jump l else skip;", "z", api.ErrNone},
		{"^export m():com=skip;", "if", api.ErrArg}, {"^export m():com=skip;", "", api.ErrArg}, {"^export m():com=skip;", "A", api.ErrArg}, {"^export m():com=skip;", "1", api.ErrArg}, {"^export m():com=skip;", "a b", api.ErrArg}, {"^export m():com=skip;", "a;", api.ErrArg}, {"^export m():com=skip;", "a\n", api.ErrArg}, {"^export m():com=skip;", "\xff", api.ErrArg}, {"^export m():com=skip;", "abcdefghijklm", api.ErrArg}, {"^export m():com=skip;", "abcdefghijkl", api.OK}, {"^export m():com=skip;", "aB9", api.OK}, {"^export m():com=skip;", "put", api.ErrArg}, {"import i:com;^export m():com=i;", "skip", api.ErrArg},
		{"import i:com;^export m():com=i;", "i", api.ErrTwice}, {"^import i:com;export m():com=i;", "m", api.ErrTwice}, {"^import i:com;export m(a:com):com=i;", "a", api.ErrTwice}, {"import i:com;export m(^a:com,b:com):com=skip;", "b", api.ErrTwice}, {"import i:com;export m(^a:com,b:com):com=skip;", "i", api.ErrTwice}, {"export m(^a:com,b:com):com=skip;import i:com;", "i", api.ErrTwice}, {"export m(^a:com,b:com):com=skip;", "m", api.ErrTwice}, {"export m(^a:com):com=(new c:2:=0 in skip);label l in skip else a;", "c", api.ErrTwice}, {"export m(^a:com):com=(new c:2:=0 in skip);label l in skip else a;", "l", api.ErrTwice}, {"export m(a:com):com=(new c:2:=0 in skip);^label l in jump l else a;", "a", api.ErrTwice}, {"export m(a:com):com=(new c:2:=0 in skip);^label l in jump l else a;", "l", api.OK},
		{"export m(^a:com):com=skip;export n(b:com):com=skip;", "b", api.OK}, {"^def m(a:com):com=skip;export n(b:com):com=skip;", "b", api.ErrTwice},
	} {
		u, l := marked(t, x.s)
		if got, e := Rename(u, l[0], x.name); e != x.e || (e == api.OK) != (got.Nodes != nil) {
			t.Errorf("%s: Rename to %q: %v, %v, not %v", x.s, x.name, got, e, x.e)
		}
	}
}
