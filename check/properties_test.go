package check

import (
	"fmt"
	"slices"
	"testing"

	"riposte/api"
	"riposte/parse"
)

// rounds is how many random programs a property is tried with.
const rounds = 150

// programs yields random programs: without errors, and, if some nodes become others, with some.
func programs(t *testing.T, seed uint64, flaws int) func(yield func(api.Tree) bool) {
	return func(yield func(api.Tree) bool) {
		r := source(seed)
		for range rounds {
			u := program(r, 1+r.IntN(6), 25)
			if flaws > 0 {
				u = flawed(r, u, r.IntN(flaws))
			}
			if e := parse.Check(u); e != api.OK && e != api.ErrLimit {
				t.Fatalf("Check of %v: %v", u, e)
			} else if e == api.OK && !yield(u) {
				return
			}
		}
	}
}

// text returns the text of a tree, and the nodes if it has none.
func text(u api.Tree) string {
	s, e := parse.Print(u)
	if e != api.OK {
		return fmt.Sprint(u.Nodes)
	}
	return s
}

// againstBook compares all that is told of a program with what the chapter's words say.
func againstBook(t *testing.T, u api.Tree) {
	t.Helper()
	b := bookOf(u)
	first, firstError := 0, api.OK
	for _, item := range b.kids[0] {
		n, e := b.error(item)
		if m, f := Item(u, item); m != n || f != e {
			t.Fatalf("%s: Item of %d: %d, %v, not %d, %v", text(u), item, m, f, n, e)
		}
		if firstError == api.OK {
			first, firstError = n, e
		}
		if l, e := Reach(u, item); !slices.Equal(l, b.reach(item)) || e != api.OK {
			t.Fatalf("%s: Reach of %d: %v, %v, not %v", text(u), item, l, e, b.reach(item))
		}
		if x, e := Effects(u, item); x != b.effects(item) || e != api.OK {
			t.Fatalf("%s: Effects of %d: %v, %v, not %v", text(u), item, x, e, b.effects(item))
		}
	}
	if n, e := Program(u); n != first || e != firstError {
		t.Fatalf("%s: Program: %d, %v, not %d, %v", text(u), n, e, first, firstError)
	}
	for n := range u.Nodes {
		if l, e := Sight(u, n); !slices.Equal(l, b.sight(n)) || e != api.OK {
			t.Fatalf("%s: Sight of %d: %v, %v, not %v", text(u), n, l, e, b.sight(n))
		}
		d, e := b.means(n), api.OK
		switch {
		case !b.names(n):
			e = api.ErrNone
		case d == 0:
			e = api.ErrName
		}
		if m, f := Means(u, n); m != d || f != e {
			t.Fatalf("%s: Means of %d: %d, %v, not %d, %v", text(u), n, m, f, d, e)
		}
		typed, ok := b.typ(n)
		e = api.OK
		switch {
		case !b.declares(n) || u.Nodes[n].Kind == api.LabelNode:
			e = api.ErrNone
		case !ok:
			e = api.ErrType
		}
		if x, f := Type(u, n); !alike(x, typed) || f != e {
			t.Fatalf("%s: Type of %d: %v, %v, not %v, %v", text(u), n, x, f, typed, e)
		}
		size, e := b.size(n)
		if s, f := Size(u, n); s != size || f != e {
			t.Fatalf("%s: Size of %d: %v, %v, not %v, %v", text(u), n, s, f, size, e)
		}
	}
}

// P3.1: a program that was made without errors has none, and is told of as the chapter says.
func TestMadePrograms(t *testing.T) {
	kinds := map[uint8]int{}
	for u := range programs(t, 1, 0) {
		if n, e := Program(u); e != api.OK {
			t.Fatalf("%s: %d, %v", text(u), n, e)
		}
		againstBook(t, u)
		for _, x := range u.Nodes {
			kinds[x.Kind]++
		}
	}
	for kind := api.ProgramNode; kind <= api.BindNode; kind++ {
		if kinds[kind] < 20 {
			t.Errorf("only %d nodes of the kind %d", kinds[kind], kind)
		}
	}
}

// P3.1 to P3.5: programs with any errors.
func TestFlawedPrograms(t *testing.T) {
	errors := map[api.Errno]int{}
	for seed := range uint64(4) {
		for u := range programs(t, 10+seed, 1+6*int(seed)) {
			againstBook(t, u)
			_, e := Program(u)
			errors[e]++
		}
	}
	for _, e := range []api.Errno{api.OK, api.ErrTwice, api.ErrRange, api.ErrName, api.ErrType} {
		if errors[e] < 20 {
			t.Errorf("only %d programs with the error %d", errors[e], e)
		}
	}
}

// P3.8: a program has no error just if no item has one; then all names mean something, and each is used by one declaration.
func TestWhole(t *testing.T) {
	for u := range programs(t, 20, 5) {
		_, e := Program(u)
		items, _ := parse.Kids(u, 0)
		flawless := !slices.ContainsFunc(items, func(n int) bool {
			_, e := Item(u, n)
			return e != api.OK
		})
		if (e == api.OK) != flawless {
			t.Fatalf("%s: %v", text(u), e)
		}
		used := map[int]int{}
		for n := range u.Nodes {
			l, _ := Uses(u, n)
			for _, m := range l {
				used[m]++
				if d, e := Means(u, m); d != n || e != api.OK {
					t.Fatalf("%s: Means of %d: %d, %v", text(u), m, d, e)
				}
			}
		}
		for n := range u.Nodes {
			_, f := Means(u, n)
			if e == api.OK && f == api.ErrName || (f == api.OK) != (used[n] == 1) || used[n] > 1 {
				t.Fatalf("%s: %d is used %d times", text(u), n, used[n])
			}
		}
	}
}

// P3.9: an item hangs on those before it.
func TestOnlyBefore(t *testing.T) {
	for u := range programs(t, 21, 5) {
		items, _ := parse.Kids(u, 0)
		for _, item := range items {
			v := api.Tree{Nodes: slices.Clone(u.Nodes[:item+u.Nodes[item].Size])}
			v.Nodes[0].Size = len(v.Nodes)
			n, e := Item(u, item)
			m, f := Item(v, item)
			if e != api.ErrTwice && (n != m || e != f) || f == api.ErrTwice && e != f {
				t.Fatalf("%s: %d, %v; %s: %d, %v", text(u), n, e, text(v), m, f)
			}
			a, e := Type(u, item)
			b, f := Type(v, item)
			c, _ := Effects(u, item)
			d, _ := Effects(v, item)
			x, _ := Reach(u, item)
			y, _ := Reach(v, item)
			if !alike(a, b) || e != f || c != d || !slices.Equal(x, y) {
				t.Fatalf("%s, %s: %v, %v; %d, %d; %v, %v", text(u), text(v), a, b, c, d, x, y)
			}
		}
	}
}

// P3.10: terms are given the own sizes that they have; both kids of an operation have one size.
func TestSizes(t *testing.T) {
	owned, operations := 0, 0
	for u := range programs(t, 22, 0) {
		b := bookOf(u)
		for n, x := range u.Nodes {
			size, e := Size(u, n)
			if b.term(n) && b.own(n) > 0 {
				if owned++; size != b.own(n) || e != api.OK {
					t.Fatalf("%s: Size of %d: %d, %v, not %d", text(u), n, size, e, b.own(n))
				}
			}
			if api.OrNode <= x.Kind && x.Kind <= api.MulNode && x.Kind != api.NotNode {
				left, _ := Size(u, b.kid(n, 0))
				right, _ := Size(u, b.kid(n, 1))
				if operations++; left != right || left == 0 {
					t.Fatalf("%s: the kids of %d: %d, %d", text(u), n, left, right)
				}
			}
		}
	}
	if owned < 500 || operations < 200 {
		t.Errorf("only %d own sizes, %d operations", owned, operations)
	}
}

// told is all that is told of a program but names.
type told struct {
	means, sizes, effects []int
	errs                  []api.Errno
	types                 []api.Type
	arenas                []api.Arena
}

func tell(u api.Tree) string {
	var x told
	for n, node := range u.Nodes {
		d, e := Means(u, n)
		size, f := Size(u, n)
		typed, g := Type(u, n)
		effects, h := Effects(u, n)
		x.means, x.sizes, x.effects = append(x.means, d), append(x.sizes, size), append(x.effects, effects)
		x.errs, x.types = append(x.errs, e, f, g, h), append(x.types, typed)
		if node.Kind == api.ExportItem {
			a, _, e := Arena(u, node.Text, true)
			x.arenas, x.errs = append(x.arenas, a), append(x.errs, e)
		}
	}
	return fmt.Sprint(x)
}

// P3.7, P3.11: a renamed program has no error, and says all that it said; renamed back it is the program before.
func TestRenamed(t *testing.T) {
	renamed, twice := 0, 0
	r := source(23)
	for u := range programs(t, 24, 0) {
		before := tell(u)
		for range 8 {
			n := r.IntN(len(u.Nodes))
			x := u.Nodes[n]
			name := pick(r, "zz", "abcdefghijkl", pick(r, u.Nodes...).Text)
			v, e := Rename(u, n, name)
			if !bookOf(u).declares(n) {
				if e != api.ErrNone {
					t.Fatalf("%s: Rename of %d: %v", text(u), n, e)
				}
				continue
			}
			if e != api.OK {
				if twice++; e != api.ErrTwice && name != "" || e != api.ErrArg && name == "" {
					t.Fatalf("%s: Rename of %d to %q: %v", text(u), n, name, e)
				}
				continue
			}
			renamed++
			_, f := Program(v)
			if w, g := Rename(v, n, x.Text); f != api.OK || tell(v) != before || !slices.Equal(w.Nodes, u.Nodes) || g != api.OK {
				t.Fatalf("%s: Rename of %d to %s: %s, %v, %v", text(u), n, name, text(v), f, g)
			}
		}
	}
	if renamed < 100 || twice < 20 {
		t.Errorf("only %d renamed programs, %d not", renamed, twice)
	}
}

// P3.12: effects come of nodes, and of what is reached.
func TestEffectsOfReached(t *testing.T) {
	for u := range programs(t, 25, 5) {
		items, _ := parse.Kids(u, 0)
		for _, item := range items {
			effects, _ := Effects(u, item)
			reached, _ := Reach(u, item)
			none := !slices.ContainsFunc(u.Nodes[item:item+u.Nodes[item].Size], func(x api.TreeNode) bool {
				return slices.Contains([]uint8{api.NewNode, api.GetNode, api.PutNode, api.NoticeNode, api.JumpNode, api.ChooseNode, api.WhileNode, api.HangNode}, x.Kind)
			})
			for _, d := range reached {
				x, _ := Effects(u, d)
				if none = none && x == 0; effects&x != x {
					t.Fatalf("%s: %d has %d, and reaches %d with %d", text(u), item, effects, d, x)
				}
			}
			if none != (effects == 0) {
				t.Fatalf("%s: %d has %d", text(u), item, effects)
			}
		}
	}
}

// P3.13: what is meant is in sight; what is in sight at a node is so at its kids.
func TestSightOfKids(t *testing.T) {
	for u := range programs(t, 26, 5) {
		for n := range u.Nodes {
			seen, _ := Sight(u, n)
			if d, e := Means(u, n); e == api.OK && !slices.Contains(seen, d) {
				t.Fatalf("%s: %d means %d, of %v", text(u), n, d, seen)
			}
			kids, _ := parse.Kids(u, n)
			for _, kid := range kids {
				l, _ := Sight(u, kid)
				if slices.ContainsFunc(seen, func(d int) bool { return !slices.Contains(l, d) }) {
					t.Fatalf("%s: %d sees %v, its kid %d %v", text(u), n, seen, kid, l)
				}
			}
		}
	}
}

// R4, P2: no call changes its arguments, and all calls tell the same again.
func TestNothingChanges(t *testing.T) {
	r := source(28)
	for u := range programs(t, 27, 3) {
		spare := append(slices.Clone(u.Nodes), api.TreeNode{Text: "spare"})
		v := api.Tree{Nodes: spare[:len(u.Nodes)]}
		for range 10 {
			n := r.IntN(len(u.Nodes))
			a, b := answers(v, n), answers(v, n)
			for name := range a {
				if a[name] != b[name] {
					t.Fatalf("%s: %s of %d: %v, %v", text(u), name, n, a[name], b[name])
				}
			}
		}
		if !slices.Equal(u.Nodes, v.Nodes) || spare[len(u.Nodes)] != (api.TreeNode{Text: "spare"}) {
			t.Fatalf("%s has become %s", text(u), text(v))
		}
	}
}

// FuzzCheck tries any texts with flaws, any nodes, any numbers.
func FuzzCheck(f *testing.F) {
	f.Add("import i:bool; def d(x:cell 3):com=x:=!x+1; export m(k:(int 3)->com):com=new c:3:=0 in(while i do d(c);k(!c));", uint64(1), []byte{}, 3, "z")
	f.Add("def g(k:(com,cell 5)->bool,c:cell 2):com=skip;export m(z:int 4):com=new w:3:=1 in g(fn(x,y)1,{get 1;put v.notice w:=2 in v=1;skip});", uint64(2), []byte{1, 0, 0, 3, 2, 1, 0, 2, 6, 0, 3, 1}, 1, "g")
	f.Add("export m():bool=label l in(9 as 7<(if true then 1 else jump l)or not hang=1-1)else choose false else true and 1*2=2;", uint64(3), []byte{1, 0, 0, 127}, 2, "")
	f.Fuzz(func(t *testing.T, s string, seed uint64, b []byte, n int, name string) {
		var l []api.TreeNode
		for ; len(b) >= 4; b = b[4:] {
			l = append(l, api.TreeNode{Kind: b[0] % 40, Text: string(b[1:2]), N: int(int8(b[2])), M: int(b[1] / 64), Size: int(int8(b[3]))})
		}
		u, _, _ := parse.Recover(s)
		for i, v := range []api.Tree{u, {Nodes: l}} {
			if parse.Check(v) == api.OK {
				againstBook(t, v)
				againstBook(t, flawed(source(seed), v, 1+i))
			}
			answers(v, n)
			Program(v)
			Arena(v, name, n%2 == 0)
			if w, e := Rename(v, n, name); e == api.OK {
				againstBook(t, w)
			}
		}
	})
}
