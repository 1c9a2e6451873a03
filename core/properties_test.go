package core

import (
	"math/rand/v2"
	"slices"
	"strings"
	"testing"

	"riposte/api"
	"riposte/check"
	"riposte/internal/samples"
	"riposte/parse"
	"riposte/run"
)

// cores yields random programs with what their exports m become.
func cores(seed uint64, programs int) func(func(api.Tree, coreOf) bool) {
	return func(yield func(api.Tree, coreOf) bool) {
		r := source(seed)
		for range programs {
			u := samples.Tree(r.IntN)
			if !yield(u, coreFor(u)) {
				return
			}
		}
	}
}

// coreOf is what Of returns.
type coreOf struct {
	a api.Arena
	u api.Term
	e api.Errno
}

// coreFor returns the core of the export m of a program.
func coreFor(u api.Tree) coreOf {
	a, t, e := Of(u, "m", true)
	return coreOf{a, t, e}
}

// sameCore reports whether two cores are the same.
func sameCore(x, y coreOf) bool {
	return sameArena(x.a, y.a) && sameTerm(x.u, y.u) && x.e == y.e
}

// P7.1, P7.7: random programs become what the chapter's table says; it is right.
func TestAgainstBook(t *testing.T) {
	seen := map[uint8]int{}
	for u, x := range cores(3, 1500) {
		a, v, e := ofByBook(u, "m", true)
		if !sameCore(x, coreOf{a, v, e}) {
			t.Fatalf("%s: %s, %v, not %s, %v", printed(u), text(x.a, x.u), x.e, written(v), e)
		}
		if x.e != api.OK {
			seen[0]++
			continue
		}
		if e := Check(x.a, x.u); e != api.OK {
			t.Fatalf("%s: %s is %v", printed(u), written(x.u), e)
		}
		for y := range nodes(x.u) {
			seen[y.Kind]++
		}
	}
	for kind := range api.TermNotice + 1 {
		if seen[kind] < 20 {
			t.Errorf("only %d of the kind %d", seen[kind], kind)
		}
	}
}

// P7.2: what is right in an arena is what chapter 3 has no error for, with names for numbers.
func TestRightAgainstChecks(t *testing.T) {
	r := source(4)
	right, wrong := 0, 0
	for range 6000 {
		a, u := anyTerm(r)
		if e := Check(a, u); e != api.OK {
			t.Fatalf("%s in %s: %v", written(u), shown(a), e)
		}
		for range 1 + r.IntN(2) {
			u = spoiled(r, u)
		}
		v, _, e := parse.Parse(programOf(a, u))
		if e == api.ErrLimit || !plain(u) {
			continue
		}
		want := e == api.OK
		if _, e := check.Program(v); e != api.OK {
			want = false
		}
		if got := Check(a, u) == api.OK; got != want {
			t.Fatalf("%v in %s: %v, not %v by %s", u, shown(a), got, want, programOf(a, u))
		}
		if want {
			right++
		} else {
			wrong++
		}
	}
	if right < 300 || wrong < 300 {
		t.Errorf("only %d are right, %d wrong", right, wrong)
	}
}

// plain reports whether no node of a term has a number that its text does not tell.
func plain(u api.Term) bool {
	told := map[uint8]string{api.TermNum: "NM", api.TermUse: "I", api.TermGet: "I", api.TermPut: "I", api.TermOp: "NM", api.TermAs: "N", api.TermNew: "NM", api.TermJump: "N", api.TermNotice: "NI", api.TermVal: "I", api.TermCell: "I"}
	for x := range nodes(u) {
		l := told[x.Kind]
		if x.N != 0 && !strings.Contains(l, "N") || x.M != 0 && !strings.Contains(l, "M") || x.Id != 0 && !strings.Contains(l, "I") {
			return false
		}
	}
	return true
}

// P7.8: of the tree of a term is the term, Parse of its text, too.
func TestThereAndBack(t *testing.T) {
	r := source(5)
	try := func(a api.Arena, u api.Term) {
		s := text(a, u)
		if v, e := Parse(a, s); e != api.OK || !sameTerm(u, v) {
			t.Fatalf("%s in %s: %v, %v", s, shown(a), v, e)
		}
		v, e := Tree(a, u)
		if e == api.ErrLimit {
			return
		}
		jumps := r.IntN(2) == 0
		b, w, f := Of(v, "main", jumps)
		a.Jumps = jumps
		if e != api.OK || f != api.OK || !sameTerm(u, w) || !sameArena(a, b) {
			t.Fatalf("%s in %s: %v, %s, %s in %s, %v", s, shown(a), e, printed(v), written(w), shown(b), f)
		}
	}
	for range 3000 {
		try(anyTerm(r))
	}
	for _, x := range cores(6, 800) {
		if x.e == api.OK {
			try(x.a, x.u)
		}
	}
}

// P7.9: a declaration with another name changes nothing.
func TestRenamed(t *testing.T) {
	renamed := 0
	for u, x := range cores(7, 60) {
		for n := range u.Nodes {
			v, e := check.Rename(u, n, "other")
			if e != api.OK {
				continue
			}
			renamed++
			export := "m"
			if u.Nodes[n].Kind == api.ExportItem {
				export = "other"
			}
			if a, w, e := Of(v, export, true); !sameCore(x, coreOf{a, w, e}) {
				t.Fatalf("%s: %s, %v with another name of %d", printed(v), written(w), e, n)
			}
		}
	}
	if renamed < 200 {
		t.Errorf("only %d", renamed)
	}
}

// P7.10: where a definition's term stands instead of its name, the core is the same.
func TestByHand(t *testing.T) {
	put := 0
	for u, x := range cores(8, 1500) {
		for n, y := range u.Nodes {
			d, e := check.Means(u, n)
			if e != api.OK || y.Kind != api.NameNode || u.Nodes[d].Kind != api.DefItem || u.Nodes[d+1].Kind == api.ParamNode {
				continue
			}
			l, _ := parse.Sub(u, d+2)
			v, e := parse.Graft(u, n, withNewNames(l))
			if _, f := check.Program(v); e != api.OK || f != api.OK || l[0].Kind == api.NumNode && u.Nodes[n-1].Kind == api.AsNode {
				continue
			}
			put++
			if z := coreFor(v); !sameCore(x, z) {
				t.Fatalf("%s: %s, not %s of %s", printed(v), written(z.u), written(x.u), printed(u))
			}
		}
	}
	if put < 200 {
		t.Errorf("only %d", put)
	}
}

// withNewNames returns nodes in which all declarations have names that are not there yet.
func withNewNames(l []api.TreeNode) []api.TreeNode {
	declared := map[string]bool{}
	for _, x := range l {
		switch x.Kind {
		case api.NewNode, api.LabelNode, api.BindNode:
			declared[x.Text] = true
		}
	}
	l = slices.Clone(l)
	for n, x := range l {
		if declared[x.Text] {
			l[n].Text = "n" + x.Text
		}
	}
	return l
}

// P7.11: renumbered there and back it is the same; its size, its nodes stay, its uses have the other numbers.
func TestThereAndBackByNumbers(t *testing.T) {
	r := source(9)
	for range 2000 {
		a, u := anyTerm(r)
		to := r.Perm(len(a.Ids))
		back := make([]int, len(to))
		for i := range to {
			back[to[i]] = i + 1
			to[i]++
		}
		b, v, e := Renumber(a, u, to)
		c, w, f := Renumber(b, v, back)
		if e != api.OK || f != api.OK || !sameTerm(u, w) || !sameArena(a, c) {
			t.Fatalf("%s in %s by %v: %s, %v; %s, %v", text(a, u), shown(a), to, text(b, v), e, text(c, w), f)
		}
		m, _ := Nodes(u)
		n, _ := Nodes(v)
		size, _ := Size(a, u)
		again, _ := Size(b, v)
		if m != n || size != again || bare(text(a, u)) != bare(text(b, v)) {
			t.Fatalf("%s of %d; %s of %d", text(a, u), size, text(b, v), again)
		}
		l, _ := Uses(a, u)
		for i := range l {
			l[i] = to[l[i]-1]
		}
		slices.Sort(l)
		if used, _ := Uses(b, v); !slices.Equal(l, used) {
			t.Fatalf("%s: %v, not %v", text(b, v), used, l)
		}
		for i, id := range a.Ids {
			if y := b.Ids[to[i]-1]; y.Result != id.Result || !slices.Equal(y.Params, id.Params) {
				t.Fatalf("%s by %v: %s", shown(a), to, shown(b))
			}
		}
	}
}

// bare returns a text with one sign for each number.
func bare(s string) string {
	var l []byte
	for i := range len(s) {
		switch digit := s[i] >= '0' && s[i] <= '9'; {
		case !digit:
			l = append(l, s[i])
		case i == 0 || s[i-1] < '0' || s[i-1] > '9':
			l = append(l, '0')
		}
	}
	return string(l)
}

// P7.12: a definition that nothing uses changes nothing; an import behind all others changes the numbers of what comes behind.
func TestNotUsed(t *testing.T) {
	r := source(10)
	imports := 0
	for u, x := range cores(11, 500) {
		s := printed(u)
		lines := strings.SplitAfter(s, "\n")
		at := r.IntN(len(lines))
		def := "def unused(x:int 3,k:(com)->com):com=k(new c:2:=0 in hang);"
		v, _, e := parse.Parse(strings.Join(slices.Insert(slices.Clone(lines), at, def), ""))
		if e != api.OK {
			continue // too long
		}
		if y := coreFor(v); !sameCore(x, y) {
			t.Fatalf("%s: %s, %v, not %s, %v", printed(v), written(y.u), y.e, written(x.u), x.e)
		}
		last, n := 0, 0
		for i, line := range lines {
			if strings.HasPrefix(line, "import ") {
				last, n = i+1, n+1
			}
		}
		w, _, e := parse.Parse(strings.Join(slices.Insert(slices.Clone(lines), last+r.IntN(len(lines)-last), "import unused:(cell 3)->com;"), ""))
		if e != api.OK || len(x.a.Ids) == api.MaxIds || x.e != api.OK {
			continue
		}
		imports++
		want := shifted(x.u, n)
		a := x.a
		a.Ids = slices.Insert(slices.Clone(a.Ids), n, api.Type{Params: []api.Base{{Cell: true, N: 3}}, Result: api.Base{N: 1}})
		if y := coreFor(w); !sameCore(y, coreOf{a, want, api.OK}) {
			t.Fatalf("%s: %s, %v, not %s", printed(w), written(y.u), y.e, written(want))
		}
	}
	if imports < 200 {
		t.Errorf("only %d", imports)
	}
}

// shifted returns a term in which the identifiers behind some have numbers that are one greater.
func shifted(u api.Term, n int) api.Term {
	if u.Id > n {
		u.Id++
	}
	u.Kids = slices.Clone(u.Kids)
	for i, kid := range u.Kids {
		u.Kids[i] = shifted(kid, n)
	}
	return u
}

// P7.13: the program of the core says what the export says, with the same picks.
func TestSaysTheSame(t *testing.T) {
	r := source(12)
	said := 0
	for u, x := range cores(13, 500) {
		if x.e != api.OK {
			continue
		}
		v, e := Tree(x.a, x.u)
		if e != api.OK {
			continue
		}
		for range 6 {
			a := api.Session{T: u, Export: "m", Jumps: true, Picks: someNumbers(r, r.IntN(8))}
			b := api.Session{T: v, Export: "main", Jumps: true, Picks: a.Picks}
			by := someNumbers(r, r.IntN(20))
			w, turn, e := run.Talk(a, by)
			again, other, f := run.Talk(b, by)
			if e != api.OK || f != api.OK {
				continue
			}
			said++
			if !slices.Equal(w, again) || turn.State != other.State || turn.Picks != other.Picks || turn.At != other.At {
				t.Fatalf("%s: %v, %v, but %v, %v of %s", printed(u), w, turn, again, other, printed(v))
			}
			if len(w) > 1 { // something else there, which can be odd
				a.Word = slices.Clone(w[:1+r.IntN(len(w)-1)])
				a.Word[len(a.Word)-1].N = r.IntN(4) - 1
				b.Word = a.Word
				turn, e = run.Next(a)
				other, f = run.Next(b)
				if e == api.OK && f == api.OK && (turn.State != other.State || !slices.Equal(turn.Moves, other.Moves) || turn.At != other.At) {
					t.Fatalf("%s after %v: %v, but %v of %s", printed(u), a.Word, turn, other, printed(v))
				}
			}
		}
	}
	if said < 1000 {
		t.Errorf("only %d", said)
	}
}

// someNumbers returns a number of them.
func someNumbers(r *rand.Rand, n int) []int {
	var l []int
	for range n {
		l = append(l, r.IntN(1000))
	}
	return l
}

// FuzzCore tries any programs, texts of terms, arenas, and random terms that are spoiled.
func FuzzCore(f *testing.F) {
	f.Add("import i:bool; export m():int 3=if i then 1 else 2;", "if(x1,1/3,2/3)", "int 3; int 2", uint64(1))
	f.Add("import f:(cell 2)->com; export m():com=label l in f({get true;put v.jump l})else skip;", "label(x1(obj(1/2,jump/0)),0/1)", "int 1; (cell 2) -> int 1; jumps", uint64(2))
	f.Add("def a(x:com):com=x;x; def b(x:com):com=a(a(x)); def c(x:com):com=b(b(x)); export m():com=c(c(c(skip)));", "new/2/1(new/2/0(seq(=3(if(!2,0/2,1/2)),notice/3/1(label(jump/0,hang)))))", "int 1; int 1", uint64(3))
	f.Add("import k:(int 2)->cell 3; export m(c:cell 64):int 3=k(choose 1 else hang);", "obj(&1,#2)", "cell 1; cell 64", uint64(4))
	f.Fuzz(func(t *testing.T, program, s, place string, seed uint64) {
		r := source(seed)
		if u, _, e := parse.Parse(program); e == api.OK {
			x := coreFor(u)
			a, v, e := ofByBook(u, "m", true)
			if !sameCore(x, coreOf{a, v, e}) {
				t.Fatalf("%s: %s, %v, not %s, %v", program, written(x.u), x.e, written(v), e)
			}
			tryTerm(t, r, x.a, x.u)
		}
		a, u := anyTerm(r)
		if b, e := arenaOf(place); e == api.OK {
			a = b
		}
		if v, e := Parse(a, s); e == api.OK {
			if again := text(a, v); again != s {
				t.Fatalf("%s: %s", s, again)
			}
			tryTerm(t, r, a, v)
		}
		for range 4 {
			u = spoiled(r, u)
			tryTerm(t, r, a, u)
		}
	})
}

// tryTerm calls all functions with a term, which need not be right.
func tryTerm(t *testing.T, r *rand.Rand, a api.Arena, u api.Term) {
	to := r.Perm(len(a.Ids))
	for i := range to {
		to[i]++
	}
	e := Check(a, u)
	for _, y := range outcomes(a, u, to) {
		if e != api.OK && (y.e != e || !y.zero) || e == api.OK && y.e != api.OK && y.name != "Tree" {
			t.Fatalf("%s of %v in %s: %v, %v, not %v", y.name, u, shown(a), y.e, y.zero, e)
		}
	}
	if e != api.OK {
		return
	}
	if v, f := Parse(a, text(a, u)); f != api.OK || !sameTerm(u, v) {
		t.Fatalf("%s in %s: %v, %v", text(a, u), shown(a), v, f)
	}
	if v, f := Tree(a, u); f == api.OK {
		if b, w, f := Of(v, "main", a.Jumps); f != api.OK || !sameTerm(u, w) || !sameArena(a, b) {
			t.Fatalf("%s in %s: %v, %v", text(a, u), shown(a), w, f)
		}
	}
}
