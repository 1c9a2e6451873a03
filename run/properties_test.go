package run

import (
	"math/rand/v2"
	"slices"
	"testing"

	"riposte/api"
	"riposte/arena"
	"riposte/check"
	"riposte/parse"
	"riposte/play"
)

// againstBook compares all that is told of a session with what the chapter's sentences say.
func againstBook(t *testing.T, x api.Session, f *facts) {
	t.Helper()
	b := read(x, f)
	u, e := Next(x)
	from, g := From(x)
	store, h := Store(x)
	if e != b.e || g != b.e || h != b.e {
		t.Fatalf("%s after %s with %v: %v, %v, %v, not %v", print(x), texts(x.Word), x.Picks, e, g, h, b.e)
	}
	if e != api.OK {
		return
	}
	if !sameTurn(u, b.turn) {
		t.Fatalf("%s after %s with %v: %s, not %s", print(x), texts(x.Word), x.Picks, shown(u), shown(b.turn))
	}
	if !slices.Equal(from, b.origins) || !slices.Equal(store, b.store()) {
		t.Fatalf("%s after %s with %v: %v, %v, not %v, %v", print(x), texts(x.Word), x.Picks, from, store, b.origins, b.store())
	}
}

// print returns the text of a session's program.
func print(x api.Session) string {
	s, _ := parse.Print(x.T)
	return s
}

// conversation returns a session that goes on with the other one's moves, random ones, and random picks. The other one seldom jumps.
func conversation(r *rand.Rand, x api.Session, most int) api.Session {
	a, _ := Arena(x)
	x.Picks = nil
	for range r.IntN(12) {
		x.Picks = append(x.Picks, r.IntN(4)-1)
	}
	for len(x.Word) < most {
		u, e := Next(x)
		if e != api.OK || u.State != api.StateAsks {
			return with(x, u.Moves...)
		}
		x = with(x, u.Moves...)
		if l, _ := play.Next(a, x.Word); len(l) > 0 && len(x.Word) < most {
			m := pick(r, l...)
			for range 2 {
				if m.N == api.Esc {
					m = pick(r, l...)
				}
			}
			x = with(x, m)
		}
	}
	return x
}

// conversations yields sessions of random programs, with random conversations, and the facts of their programs.
func conversations(seed uint64, programs, words int) func(func(api.Session, *facts) bool) {
	return func(yield func(api.Session, *facts) bool) {
		r := source(seed)
		for range programs {
			x := session(r)
			f := factsOf(x.T)
			for range words {
				if !yield(conversation(r, x, 1+r.IntN(30)), f) {
					return
				}
			}
		}
	}
}

// spoiled returns a session whose word, or picks, are others here and there.
func spoiled(r *rand.Rand, x api.Session) api.Session {
	a, _ := Arena(x)
	all, _ := arena.Moves(a)
	x.Word = slices.Clone(x.Word)
	at := r.IntN(len(x.Word) + 1)
	switch r.IntN(4) {
	case 0:
		x.Word = slices.Insert(x.Word, at, pick(r, all...))
	case 1:
		x.Word = append(x.Word, pick(r, all...), pick(r, all...))
	case 2:
		x.Picks = append(slices.Clone(x.Picks), r.IntN(3))[:len(x.Picks)/2]
	default:
		if at < len(x.Word) {
			x.Word[at] = pick(r, all...)
		}
	}
	return x
}

// tally counts what a conversation has of what matters.
func tally(seen map[string]int, x api.Session) {
	u, e := Next(x)
	if e != api.OK {
		seen["endless"]++
		return
	}
	seen[map[uint8]string{api.StateAsks: "asks", api.StateOver: "over", api.StateHangs: "hangs", api.StateOdd: "odd"}[u.State]]++
	for _, m := range x.Word {
		switch {
		case m.N == api.Esc && m.Arg > 0:
			seen["jumps"]++
		case m.N == api.Esc && m.Id == 0:
			seen["lost"]++
		case m.Arg > 0 && m.Kind == api.MovePut:
			seen["puts"]++
		}
	}
	if u.Picks > 0 {
		seen["picks"]++
	}
	if len(x.Word) > 20 {
		seen["long"]++
	}
	if l, _ := Store(x); len(l) > 1 {
		seen["cells"]++
	}
}

// P6.1, P6.4, P6.5: random programs say along random words, their beginnings, and spoiled ones, what the chapter says.
func TestAgainstBook(t *testing.T) {
	r := source(1)
	seen := map[string]int{}
	for x, f := range conversations(2, 120, 6) {
		for n := range len(x.Word) + 1 {
			y := x
			y.Word = x.Word[:n]
			againstBook(t, y, f)
		}
		for range 4 {
			againstBook(t, spoiled(r, x), f)
		}
		tally(seen, x)
	}
	for _, what := range []string{"endless", "asks", "over", "hangs", "jumps", "lost", "puts", "picks", "long", "cells"} {
		if seen[what] < 5 {
			t.Errorf("only %d: %s", seen[what], what)
		}
	}
}

// P6.2: Talk goes on as one goes on by hand.
func TestTalkByHand(t *testing.T) {
	r := source(3)
	for x := range conversations(4, 100, 3) {
		x.Word = x.Word[:r.IntN(len(x.Word)+1)]
		var by []int
		for range r.IntN(20) {
			by = append(by, r.IntN(1000))
		}
		a, _ := Arena(x)
		y := x
		u, e := Next(y)
		y = with(y, u.Moves...)
		for _, n := range by {
			if e != api.OK || u.State != api.StateAsks {
				break
			}
			l, _ := play.Next(a, y.Word)
			y = with(y, l[n%len(l)])
			u, e = Next(y)
			y = with(y, u.Moves...)
		}
		if e != api.OK {
			y.Word = nil
		}
		w, v, f := Talk(x, by)
		if !slices.Equal(w, y.Word) || !sameTurn(u, v) || e != f {
			t.Fatalf("%s after %s by %v: %s, %s, %v, not %s, %s, %v", print(x), texts(x.Word), by, texts(w), shown(v), f, texts(y.Word), shown(u), e)
		}
	}
}

// P6.3, P6.8: Can says what Next says with all picks, whatever bits they have.
func TestCanByHand(t *testing.T) {
	r := source(5)
	some := 0
	for x := range conversations(6, 150, 4) {
		many := r.IntN(5)
		x.Word, x.Picks = x.Word[:r.IntN(len(x.Word)+1)], x.Picks[:r.IntN(len(x.Picks)+1)/3]
		said, hanging, e := map[api.Move]bool{}, false, api.OK
		for bits := range 1 << many {
			y := x
			y.Picks = slices.Clone(x.Picks)
			for n := range many {
				y.Picks = append(y.Picks, bits>>(many-1-n)&1+2*r.IntN(5))
			}
			u, f := Next(y)
			e = max(e, f)
			hanging = hanging || u.State == api.StateHangs
			for _, m := range u.Moves {
				said[m] = true
			}
		}
		l, hangs, f := Can(x, many)
		if e != api.OK {
			said, hanging = nil, false
		}
		if len(l) != len(said) || hangs != hanging || e != f || slices.ContainsFunc(l, func(m api.Move) bool { return !said[m] }) || !ascends(l) {
			t.Fatalf("%s after %s with %d: %s, %v, %v, not %v, %v, %v", print(x), texts(x.Word), many, texts(l), hangs, f, said, hanging, e)
		}
		if len(l) > 1 {
			some++
		}
	}
	if some < 10 {
		t.Errorf("only %d with several moves", some)
	}
}

// ascends reports whether each move comes before the next one.
func ascends(l []api.Move) bool {
	for n := 1; n < len(l); n++ {
		if !arena.Less(l[n-1], l[n]) {
			return false
		}
	}
	return true
}

// P6.6: what is followed, and said, is legal; the other one can say just what can come.
func TestLegal(t *testing.T) {
	asked := 0
	for x := range conversations(7, 100, 3) {
		u, e := Next(x)
		if e != api.OK {
			continue
		}
		a, _ := Arena(x)
		if _, e := play.Check(a, append(slices.Clone(x.Word[:u.At]), u.Moves...)); e != api.OK {
			t.Fatalf("%s after %s: %s, which is %v", print(x), texts(x.Word), shown(u), e)
		}
		stand, _ := play.Stand(a, append(slices.Clone(x.Word[:u.At]), u.Moves...))
		if u.State == api.StateAsks && stand.Turn != api.TurnOther || u.State == api.StateOver && stand.Turn != api.TurnOver || u.State == api.StateHangs && stand.Turn != api.TurnProgram {
			t.Fatalf("%s after %s: %s, but the turn %d", print(x), texts(x.Word), shown(u), stand.Turn)
		}
		if u.State != api.StateAsks || asked > 60 {
			continue
		}
		asked++
		y := with(x, u.Moves...)
		can, _ := play.Next(a, y.Word)
		all, _ := arena.Moves(a)
		for _, m := range all {
			v, e := Next(with(y, m))
			if odd := v.State == api.StateOdd; e == api.OK && (odd == slices.Contains(can, m) || odd && v.At != len(y.Word)) {
				t.Fatalf("%s after %s and %v: %s, %v", print(x), texts(y.Word), m, shown(v), e)
			}
		}
	}
}

// P6.7: with its next move a word comes to the same; its beginnings are followed alike; what is odd stays so.
func TestOnAndOn(t *testing.T) {
	r := source(8)
	for x := range conversations(9, 100, 3) {
		u, e := Next(x)
		if e != api.OK {
			continue
		}
		v := next(t, with(x, u.Moves...))
		if v.State != u.State || v.Picks != u.Picks || v.Steps != u.Steps || v.At != u.At+len(u.Moves) || len(v.Moves) > 0 {
			t.Fatalf("%s after %s: %s, then %s", print(x), texts(x.Word), shown(u), shown(v))
		}
		for n := range x.Word {
			y := x
			y.Word = x.Word[:n]
			w := next(t, y)
			if len(w.Moves) > 0 && w.Moves[0] != x.Word[n] || w.At != n || w.Steps > u.Steps || w.Picks > u.Picks || n%2 == 1 && len(w.Moves) == 0 {
				t.Fatalf("%s after %s: %s, though %s comes", print(x), texts(y.Word), shown(w), texts(x.Word[n:]))
			}
		}
		y := spoiled(r, x)
		w, e := Next(y)
		if e != api.OK || w.State != api.StateOdd {
			continue
		}
		a, _ := Arena(x)
		all, _ := arena.Moves(a)
		for _, z := range []api.Session{with(y, pick(r, all...)), with(y, make(api.Word, 3)...), {T: y.T, Export: y.Export, Jumps: y.Jumps, Word: y.Word[:w.At+1], Picks: y.Picks}} {
			if v := next(t, z); !sameTurn(v, w) {
				t.Fatalf("%s after %s: %s, but %s after %s", print(x), texts(y.Word), shown(w), shown(v), texts(z.Word))
			}
		}
	}
}

// P6.8: picks that are not taken do not matter, nor what they are but even or odd; without choices none is taken.
func TestPicksThatMatter(t *testing.T) {
	r := source(10)
	without := 0
	for x := range conversations(11, 100, 3) {
		u, e := Next(x)
		export, _ := parse.Find(x.T, x.Export)
		if effects, _ := check.Effects(x.T, export); effects&api.EffChoices == 0 {
			without++
			if u.Picks != 0 {
				t.Fatalf("%s: %s", print(x), shown(u))
			}
		}
		if e != api.OK {
			continue
		}
		y := x
		y.Picks = slices.Clone(x.Picks[:min(u.Picks, len(x.Picks))])
		for n := range y.Picks {
			y.Picks[n] += 2 * (r.IntN(9) - 4)
		}
		for range 3 {
			if v := next(t, y); !sameTurn(u, v) {
				t.Fatalf("%s after %s with %v: %s, but %s with %v", print(x), texts(x.Word), x.Picks, shown(u), shown(v), y.Picks)
			}
			for len(y.Picks) < u.Picks { // what is not there is as 0
				y.Picks = append(y.Picks, 0)
			}
			y.Picks = append(y.Picks, r.IntN(2))
		}
	}
	if without < 10 {
		t.Errorf("only %d without choices", without)
	}
}

// P6.9: a declaration with another name changes nothing.
func TestRenamed(t *testing.T) {
	renamed := 0
	for x := range conversations(12, 40, 2) {
		u, e := Next(x)
		for n := range x.T.Nodes {
			y, f := check.Rename(x.T, n, "other")
			if f != api.OK {
				continue
			}
			renamed++
			z := x
			z.T = y
			if x.T.Nodes[n].Kind == api.ExportItem {
				z.Export = "other"
			}
			if v, f := Next(z); e != f || !sameTurn(u, v) {
				t.Fatalf("%s after %s: %s, but %s, %v with another name of %d", print(x), texts(x.Word), shown(u), shown(v), f, n)
			}
		}
	}
	if renamed < 200 {
		t.Errorf("only %d", renamed)
	}
}

// P6.10: where a definition's term stands instead of its call, or its name, the program says the same.
func TestByHand(t *testing.T) {
	names, calls := 0, 0
	for x := range conversations(13, 400, 2) {
		u, e := Next(x)
		if e != api.OK {
			continue
		}
		for n := range x.T.Nodes {
			y, ok := inlined(x.T, n)
			if !ok {
				continue
			}
			if x.T.Nodes[n].Kind == api.NameNode {
				names++
			} else {
				calls++
			}
			z := x
			z.T = y
			v, f := Next(z)
			if f != api.OK || u.State != v.State || !slices.Equal(u.Moves, v.Moves) || u.At != v.At || u.Picks != v.Picks {
				t.Fatalf("%s after %s: %s, but %s, %v of %s", print(x), texts(x.Word), shown(u), shown(v), f, print(z))
			}
		}
	}
	if names < 20 || calls < 20 {
		t.Errorf("only %d names and %d calls", names, calls)
	}
}

// inlined returns a program without an error in which a definition's term stands in the place of a node that means it: its params are their arguments. It is not done where names or sizes would be others.
func inlined(u api.Tree, n int) (api.Tree, bool) {
	d, e := check.Means(u, n)
	if e != api.OK || u.Nodes[d].Kind != api.DefItem {
		return u, false
	}
	if _, e := check.Size(u, n); e != api.OK {
		return u, false
	}
	args, _ := parse.Kids(u, n)
	kids, _ := parse.Kids(u, d)
	term := kids[len(kids)-1]
	l, _ := parse.Sub(u, term)
	for k := len(l) - 1; k >= 0; k-- {
		p, e := check.Means(u, term+k)
		param := slices.Index(kids, p)
		if e != api.OK || param < 0 || u.Nodes[p].Kind != api.ParamNode {
			continue
		}
		arg, _ := parse.Sub(u, args[param])
		size, e := check.Size(u, args[param])
		switch {
		case e == api.OK && l[k].Kind == api.NameNode:
			arg = append([]api.TreeNode{{Kind: api.AsNode, N: size, Size: len(arg) + 1}}, arg...)
			l = grafted(l, k, arg)
		case e != api.OK && len(arg) == 1:
			l[k].Text = arg[0].Text
		default:
			return u, false
		}
	}
	v, e := parse.Graft(u, n, l)
	if e != api.OK {
		return u, false
	}
	_, e = check.Program(v)
	return v, e == api.OK
}

// grafted returns the nodes of a term in which a node without kids is other nodes.
func grafted(l []api.TreeNode, k int, arg []api.TreeNode) []api.TreeNode {
	l = slices.Clone(l)
	for up := range k {
		if up+l[up].Size > k {
			l[up].Size += len(arg) - 1
		}
	}
	return slices.Concat(l[:k], arg, l[k+1:])
}

// P6.11: Jumps do not matter without Esc of the other one that is not forced; after such a one there is nothing but Esc.
func TestWithAndWithoutJumps(t *testing.T) {
	lost := 0
	for x := range conversations(14, 150, 3) {
		u, e := Next(x)
		first := -1
		for n := range x.Word {
			if first < 0 && isUnforced(x.Word, n) {
				first = n
			}
		}
		if first >= 0 {
			lost++
			for _, m := range append(slices.Clone(x.Word[first:]), u.Moves...) {
				if m.Kind != api.MoveTell || m.N != api.Esc {
					t.Fatalf("%s after %s: %s", print(x), texts(x.Word), shown(u))
				}
			}
			if e == api.OK && u.State == api.StateHangs {
				t.Fatalf("%s after %s: %s", print(x), texts(x.Word), shown(u))
			}
			continue
		}
		y := x
		y.Jumps = !x.Jumps
		if v, f := Next(y); e != f || !sameTurn(u, v) {
			t.Fatalf("%s after %s: %s, %v, but %s, %v with Jumps %v", print(x), texts(x.Word), shown(u), e, shown(v), f, y.Jumps)
		}
	}
	if lost < 10 {
		t.Errorf("only %d lost words", lost)
	}
}

// isUnforced reports whether a move is Esc of the other one that is not forced.
func isUnforced(w api.Word, n int) bool {
	m := w[n]
	return n > 0 && m.Kind == api.MoveTell && m.N == api.Esc && m.Id > 0 && m.Arg == 0 && (w[n-1].Arg == 0 || w[n-1].Kind != api.MoveTell || w[n-1].N != api.Esc)
}

// P6.4, P6.12: a cell's value is below its size, and there is none when it is over; moves come from nodes of the right kinds.
func TestCellsAndOrigins(t *testing.T) {
	for x := range conversations(15, 150, 3) {
		u, e := Next(x)
		if e != api.OK {
			continue
		}
		l, _ := Store(x)
		for _, c := range l {
			if y := x.T.Nodes[c.Node]; y.Kind != api.NewNode || c.N < 0 || c.N >= y.N {
				t.Fatalf("%s after %s: %v", print(x), texts(x.Word), l)
			}
		}
		if u.State == api.StateOver && len(l) > 0 {
			t.Fatalf("%s after %s: %s with %v", print(x), texts(x.Word), shown(u), l)
		}
		from, _ := From(x)
		w := append(slices.Clone(x.Word[:u.At]), u.Moves...)
		if len(from) != len(w) {
			t.Fatalf("%s after %s: %v", print(x), texts(x.Word), from)
		}
		a, _ := Arena(x)
		for n, m := range w {
			if other, _ := arena.IsOther(a, m); other != (from[n] == -1) || !other && m.Kind == api.MoveAsk && m.Arg == 0 && !slices.Contains([]uint8{api.NameNode, api.CallNode, api.GetNode}, x.T.Nodes[from[n]].Kind) {
				t.Fatalf("%s after %s: %v", print(x), texts(x.Word), from)
			}
		}
	}
}

// FuzzRun tries any texts, words and picks, and random programs.
func FuzzRun(f *testing.F) {
	f.Add("import i:int 3; export m():int 3=i+1;", uint64(1), "0? 1? 1!2 0!0", []byte{}, true)
	f.Add("import f:(cell 2)->com; export m():bool=new c:2:=0 in(label l in f({get(jump l;!c);put v.c:=v})else skip;!c);", uint64(2), "0? 1? 1.1? 1.1!*", []byte{1, 0, 3}, false)
	f.Add("import k:(int 2)->cell 3; export m(c:cell 64):int 3=notice c:=1 in k(choose 1 else hang);", uint64(3), "0!* 1.1=1", []byte{1, 255}, true)
	f.Fuzz(func(t *testing.T, s string, seed uint64, w string, picks []byte, jumps bool) {
		r := source(seed)
		x := session(r)
		if u, _, e := parse.Parse(s); e == api.OK {
			x = api.Session{T: u, Export: "m"}
		}
		x.Word, _ = play.Parse(w)
		x.Jumps = jumps
		for _, p := range picks {
			x.Picks = append(x.Picks, int(int8(p)))
		}
		for range 4 {
			if _, e := Arena(x); e == api.OK && arenaIsRight(x) {
				againstBook(t, x, factsOf(x.T))
			}
			all(x, []int{3, 1, 4, 1, 5}, 2)
			if x.Export = "m"; r.IntN(9) == 0 {
				x.Export = w
			}
			if _, e := Arena(x); e == api.OK {
				x = spoiled(r, conversation(r, x, 20))
			}
		}
	})
}

// arenaIsRight reports whether chapter 4 has no error for a session's arena.
func arenaIsRight(x api.Session) bool {
	a, _ := Arena(x)
	return arena.Check(a) == api.OK
}
