package parse

import (
	"slices"
	"strings"
	"testing"

	"riposte/api"
	"riposte/lex"
)

// rounds is how many random inputs a property is tried with.
const rounds = 1500

// P2.1: the tree of a text that was made as the grammar says, with all places.
func TestParseOfMadeTexts(t *testing.T) {
	r := source(3)
	for range rounds {
		s, want := program(r, 200)
		if len(s) > api.MaxText {
			continue
		}
		got := tree(t, s)
		if !slices.Equal(got.Nodes, want.Nodes) {
			t.Fatalf("%q: %v, not %v", s, got, want)
		}
	}
}

// P2.8: what is printed has the tree, and is not longer than a text that has it.
func TestPrinted(t *testing.T) {
	r := source(4)
	for range rounds {
		s, u := program(r, 200)
		p, e := Print(u)
		if e != api.OK || !same(tree(t, p), u) || len(p)-strings.Count(p, "\n") > len(s) {
			t.Fatalf("%q: %q, %v", s, p, e)
		}
	}
}

// P2.4, P2.8: each term, printed, is what the grammar makes of it, whatever stands around it.
func TestPrintedTerms(t *testing.T) {
	r := source(5)
	for range rounds / 5 {
		_, u := program(r, 60)
		for n, x := range u.Nodes {
			s, e := Text(u, n)
			if e != api.OK {
				t.Fatalf("Text of %v and %d: %v", u, n, e)
			}
			sub, _ := Sub(u, n)
			var again []api.TreeNode
			switch {
			case x.Kind == api.ProgramNode:
				again = tree(t, s).Nodes
			case letterOf(x.Kind) == 'i':
				again = tree(t, s).Nodes[1:]
			case letterOf(x.Kind) == 'p':
				again, _ = Sub(tree(t, "def f("+s+"):com=a;"), 2)
			case letterOf(x.Kind) == 'b' || letterOf(x.Kind) == 'w':
				again = tree(t, "import a:"+s+";").Nodes[2:]
			case letterOf(x.Kind) == 't':
				again = tree(t, "def f():com="+s+";").Nodes[3:]
			case letterOf(x.Kind) == 'n':
				again, _ = Sub(tree(t, "def f():com=f(fn("+s+")a);"), 5)
			default:
				again = tree(t, "def f():com=f("+s+");").Nodes[4:]
			}
			if !same(api.Tree{Nodes: again}, api.Tree{Nodes: sub}) {
				t.Fatalf("%q: %v, not %v", s, again, sub)
			}
		}
	}
}

// P2.9: each pair of brackets of a printed text is needed.
func TestNoBracketTooMany(t *testing.T) {
	r := source(6)
	pairs := 0
	for range rounds / 3 {
		_, u := program(r, 200)
		s, _ := Print(u)
		tokens, _, _ := lex.Tokens(s)
		other, _, e := lex.Pairs(tokens)
		if e != api.OK {
			t.Fatalf("Pairs of %q: %v", s, e)
		}
		for i, j := range other {
			if j < i {
				continue
			}
			pairs++
			blank := []byte(s)
			blank[tokens[i].At], blank[tokens[j].At] = ' ', ' '
			if v, _, e := Parse(string(blank)); e == api.OK && same(u, v) {
				t.Fatalf("%q and %q have one tree", s, blank)
			}
		}
	}
	if pairs < 1000 {
		t.Errorf("only %d pairs", pairs)
	}
}

// P2.10: kids, nodes above, and Sizes belong together.
func TestFamilies(t *testing.T) {
	r := source(7)
	for range rounds / 10 {
		_, u := program(r, 60)
		all := []int{0}
		for n, x := range u.Nodes {
			kids, e := Kids(u, n)
			if e != api.OK || !slices.IsSorted(kids) {
				t.Fatalf("Kids of %v and %d: %v, %v", u, n, kids, e)
			}
			size := 1
			for _, kid := range kids {
				if up, e := Up(u, kid); up != n || e != api.OK {
					t.Fatalf("Up of %v and %d: %d, %v", u, kid, up, e)
				}
				size += u.Nodes[kid].Size
			}
			if size != x.Size {
				t.Fatalf("%v: %d has the Size %d", u, n, size)
			}
			all = append(all, kids...)
		}
		slices.Sort(all)
		for i, n := range all {
			if i != n || len(all) != len(u.Nodes) {
				t.Fatalf("%v: kids are %v", u, all)
			}
		}
	}
}

// P2.11: what is grafted, and what stays.
func TestGrafted(t *testing.T) {
	r := source(8)
	grafted := 0
	for range rounds {
		_, u := program(r, 60)
		_, v := program(r, 60)
		n := r.IntN(len(u.Nodes))
		own, _ := Sub(u, n)
		if w, e := Graft(u, n, own); e != api.OK || !slices.Equal(w.Nodes, u.Nodes) {
			t.Fatalf("Graft of Sub of %v and %d: %v, %v", u, n, w, e)
		}
		l, _ := Sub(v, r.IntN(len(v.Nodes)))
		w, e := Graft(u, n, l)
		if e != api.OK {
			continue
		}
		grafted++
		if sub, e := Sub(w, n); e != api.OK || !slices.Equal(sub, l) {
			t.Fatalf("Sub of %v and %d: %v, %v, not %v", w, n, sub, e, l)
		}
		longer := len(l) - len(own)
		for i, x := range u.Nodes {
			switch {
			case i < n && i+x.Size > n:
				x.Size += longer
			case i < n:
			case i < n+len(own):
				continue
			}
			at := i
			if i >= n {
				at += longer
			}
			if w.Nodes[at] != x {
				t.Fatalf("Graft of %v, %d and %v: %v", u, n, l, w)
			}
		}
		if same(u, w) != same(api.Tree{Nodes: own}, api.Tree{Nodes: l}) {
			t.Fatalf("Graft of %v, %d and %v: %v", u, n, l, w)
		}
	}
	if grafted < 50 {
		t.Errorf("only %d grafts", grafted)
	}
}

// P2.12: an item in between costs no other one, whatever it is.
func TestRecovered(t *testing.T) {
	r := source(9)
	m := &maker{Rand: r}
	for range rounds {
		before, a := program(r, 20)
		behind, b := program(r, 20)
		between := flawed(t, m)
		for at, keyword := range []string{"import ", "def ", "export "} {
			between = strings.ReplaceAll(between, keyword, []string{"", "( ", "a "}[at])
		}
		between = []string{"import ", "def ", "export "}[r.IntN(3)] + between
		s := before + "\n" + between + "\n" + behind
		if words, _, e := lex.Tokens(between); e != api.OK || slices.ContainsFunc(words[1:], func(x api.Token) bool { return slices.Contains([]string{"import", "def", "export"}, x.Text) }) {
			continue
		}
		u, faults, e := Recover(s)
		if e != api.OK {
			t.Fatalf("%q: %v", s, e)
		}
		most := len(between)
		for _, f := range faults {
			if f.At < len(before) || f.At > len(before)+most+2+len(behind) {
				t.Fatalf("%q: %v", s, faults)
			}
		}
		head, tail := a.Nodes[1:], b.Nodes[1:]
		if len(u.Nodes) < 1+len(head)+len(tail) {
			t.Fatalf("%q: %v", s, u)
		}
		rest := len(u.Nodes) - len(tail)
		if !same(api.Tree{Nodes: head}, api.Tree{Nodes: u.Nodes[1 : 1+len(head)]}) || !same(api.Tree{Nodes: tail}, api.Tree{Nodes: u.Nodes[rest:]}) {
			t.Fatalf("%q: %v", s, u)
		}
		v, at, e := Parse(s)
		if (len(faults) == 0) != (e == api.OK) || e == api.OK && !slices.Equal(u.Nodes, v.Nodes) || e != api.OK && at != faults[0].At {
			t.Fatalf("%q: %v, %d, %v", s, faults, at, e)
		}
	}
}

// P2.13: names lead to items, and a program is its items.
func TestItems(t *testing.T) {
	r := source(10)
	for range rounds {
		_, u := program(r, 40)
		items, _ := Kids(u, 0)
		text, names := "", map[string]bool{}
		for _, n := range items {
			name := u.Nodes[n].Text
			if m, e := Find(u, name); e != api.OK || m > n || u.Nodes[m].Text != name || !names[name] && m != n {
				t.Fatalf("Find of %v and %s: %d, %v", u, name, m, e)
			}
			names[name] = true
			s, e := Text(u, n)
			if e != api.OK {
				t.Fatalf("Text of %v and %d: %v", u, n, e)
			}
			text += s + "\n"
		}
		if s, e := Print(u); s != text || e != api.OK {
			t.Fatalf("Print of %v: %q, %v", u, s, e)
		}
	}
}

// nodesOf returns nodes that some bytes say, whatever they are.
func nodesOf(b []byte) (l []api.TreeNode) {
	names := []string{"", "a", "f", "if", "abcdefghijklm", "A"}
	for ; len(b) >= 4; b = b[4:] {
		l = append(l, api.TreeNode{Kind: b[0] % 40, Text: names[int(b[1])%len(names)], N: int(int8(b[2])), M: int(b[1] / 64), At: int(b[2]), Size: int(int8(b[3]))})
	}
	return l
}

// P1: any text, any nodes, any numbers.
func FuzzParse(f *testing.F) {
	f.Add("export f():bool=x<1;", []byte{}, 0, "f")
	f.Add("def f(; def g():com=a;", []byte{1, 0, 0, 3, 2, 1, 0, 2, 6, 0, 3, 1}, 1, "g")
	f.Add("import k:(com)->com;export f():com=k(fn(x)a)", []byte{1, 0, 0, 127, 9, 0, 0, 128, 26, 0, 5, 0}, 2, "")
	f.Fuzz(func(t *testing.T, s string, b []byte, n int, name string) {
		u, at, e := Parse(s)
		v, faults, g := Recover(s)
		l := nodesOf(b)
		if e != api.OK && len(u.Nodes) > 0 || e == api.OK && (at != 0 || len(faults) > 0 || g != api.OK || !slices.Equal(u.Nodes, v.Nodes)) {
			t.Errorf("%q: %v, %d, %v; %v, %v, %v", s, u, at, e, v, faults, g)
		}
		if p, f := Print(v); g == api.OK && f == api.OK {
			if w, _, e := Parse(p); e != api.ErrLimit && !same(v, w) {
				t.Errorf("%q: %v, not %v", p, w, v)
			}
		}
		for _, x := range []api.Tree{v, {Nodes: l}} {
			if e := Check(x); e != api.ErrLimit && (e == api.OK) != rightTree(x.Nodes) {
				t.Errorf("Check of %v: %v", x, e)
			}
			Print(x)
			Bare(x)
			Find(x, name)
			for _, n := range []int{n, len(x.Nodes) - 1} {
				Text(x, n)
				Up(x, n)
				Kids(x, n)
				Sub(x, n)
				if w, e := Graft(x, n, l); e == api.OK && Check(w) != api.OK {
					t.Errorf("Graft of %v, %d and %v: %v", x, n, l, w)
				}
			}
		}
	})
}
