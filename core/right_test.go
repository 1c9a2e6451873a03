package core

import (
	"slices"
	"strings"
	"testing"

	"riposte/api"
)

// around is the arena of most tests: of an integer of 1; an integer of 2, a cell of 3, what has an integer of 3 and a cell of 2 as params, a cell of 2.
const around = "int 1; int 2; cell 3; (int 3, cell 2) -> int 1; cell 2"

// P7.2: terms of each kind, with their sizes, as the table says.
func TestRight(t *testing.T) {
	for _, x := range []struct {
		size int
		l    []string
	}{
		{1, []string{"0/1", "=2(2/3)", "=4(x1)", "x3(0/3,&4)", "x3(!2,obj(x1,0/1))", "while(0/64,0/1)", "hang", "label(jump/0,hang)", "label(label(jump/1,jump/0),0/1)", "label(0/1,label(jump/0,0/1))", "x3(0/3,obj(0/2,while(#5,hang)))", "new/2/0(x3(0/3,&5))", "new/2/0(=5(x1))", "new/2/1(x3(0/3,obj(!5,=5(#6))))", "x3(0/3,obj(new/2/0(!5),new/2/0(=6(#5))))", "label(x3(0/3,obj(0/2,jump/0)),0/1)"}},
		{2, []string{"0/2", "1/2", "x1", "!4", "eq/1(0/1,hang)", "eq/64(63/64,0/64)", "less/3(!2,1/3)", "add/2(x1,!4)", "as/2(0/1)", "as/2(!2)", "seq(0/1,x1)", "if(!2,x1,0/2)", "new/64/63(x1)", "new/1/0(as/2(!5))", "label(x1,0/2)", "choose(x1,!4)", "new/2/0(notice/5/1(x1))", "new/3/0(notice/5/2(x1))", "new/2/0(new/3/1(notice/5/1(notice/6/2(!5))))", "new/2/0(seq(hang,!5))"}},
		{3, []string{"!2", "2/3", "sub/3(!2,1/3)", "mul/3(!2,1/3)", "as/3(as/64(as/1(!2)))", "seq(seq(0/1,0/1),!2)", "if(0/1,if(0/1,!2,!2),!2)", "new/3/2(!5)", "choose(!2,choose(0/3,1/3))", "label(label(!2,0/3),label(1/3,2/3))"}},
		{64, []string{"63/64", "as/64(0/1)", "new/64/0(!5)"}},
	} {
		for _, s := range x.l {
			for _, size := range []int{1, 2, 3, 64} {
				a := readArena(t, around)
				a.Root.N = size
				u, e := Parse(a, s)
				want := api.ErrForm
				if size == x.size {
					want = api.OK
				}
				n, f := Size(a, u)
				if e != want || e == api.OK && (n != size || f != api.OK || Check(a, u) != api.OK) {
					t.Errorf("%s of %d: %v; %d, %v", s, size, e, n, f)
				}
			}
		}
	}
}

// P7.2: terms that the table does not have.
func TestNotRight(t *testing.T) {
	a := readArena(t, around)
	hang := api.Term{Kind: api.TermHang}
	wrong := map[int][]string{
		1: {"1/1", "0/0", "x2", "x3", "x4", "x5", "x0", "!1", "!3", "!5", "!0", "=1(x1)", "=3(0/1)", "=2(0/2)", "=2", "=2(0/3,0/3)", "x3(0/3)", "x3(0/3,&4,&4)", "x3(0/2,&4)", "x3(0/3,&2)", "x3(0/3,&1)", "x3(0/3,x1)", "x3(0/3,!4)", "x3(&2,&4)", "x3(obj(0/3,0/1),&4)", "x3(0/3,obj(0/3,0/1))", "x3(0/3,obj(0/2,x1))", "x3(0/3,obj(0/2,=4(#6)))", "x3(0/3,obj(#5,0/1))", "x3(0/3,obj(0/2,=4(!5)))", "x3(0/3,obj(0/2,=5(0/2)))", "x3(0/3,obj(0/2,x3(0/3,&5)))", "x3(0/3,obj(0/2))", "x3(0/3,obj(0/2,0/1,0/1))", "x3(0/3,&5)", "x3(0/3,&0)", "&4", "obj(0/1,0/1)", "#1", "#2", "jump/0", "label(jump/1,0/1)", "label(0/1,jump/0)", "label(0/1)", "while(0/2,0/2)", "while(x2,0/1)", "seq(0/2,0/1)", "seq(0/1)", "seq(0/1,0/1,0/1)", "hang(0/1)", "seq(new/2/0(0/1),=5(0/2))", "new/2/0(new/3/0(=6(!5)))", "choose(0/1,0/2)", "if(0/1,0/1)", "if(x2,0/1,0/1)", "if(0/1,0/2,0/1)", "new/2/0(#5)", "seq(x3(0/3,obj(0/2,0/1)),while(#5,0/1))"},
		2: {"2/2", "x1(0/1)", "x1()", "add/3(!2,!2)", "add/2(x1,!2)", "add/2(!2,x1)", "add/0(x1,x1)", "eq/2(!2,!2)", "eq/2(x1)", "eq/0(x2,x2)", "less/0(0/0,0/0)", "eq/3(!2,0/2)", "less/64(0/65,0/64)", "as/2", "as/2(x2)", "as/2(&4)", "as/3(x1)", "new/2/2(x1)", "new/0/0(x1)", "new/65/0(x1)", "new/2/0(x1,x1)", "new/2/0(notice/5/2(x1))", "notice/4/1(x1)", "notice/1/1(x1)", "notice/0/0(x1)", "new/2/0(notice/6/1(x1))", "new/2/0(notice/5/1)", "label(x1,0/3)", "choose(0/3,0/2)", "if(x1,0/2,0/3)", "seq(0/1,0/3)", "#5"},
	}
	for size, l := range wrong {
		a.Root.N = size
		for _, s := range l {
			if u, e := Parse(a, s); e != api.ErrForm || !sameTerm(u, api.Term{}) {
				t.Errorf("%s of %d: %v", s, size, e)
			}
			if e := Check(a, read(s)); e != api.ErrForm {
				t.Errorf("%s of %d: Check: %v", s, size, e)
			}
		}
	}
	a.Root.N = 1
	for _, u := range []api.Term{
		{}, {Kind: 99}, {Kind: api.TermNotice + 1}, num(0, 65), num(-1, 1), {Kind: api.TermNum, M: 1, Id: 1}, kids(num(0, 1), hang),
		{Kind: api.TermHang, N: 1}, {Kind: api.TermHang, M: 1}, {Kind: api.TermHang, Id: 1},
		kids(api.Term{Kind: api.TermSeq, M: 1}, hang, hang), kids(api.Term{Kind: api.TermSeq, N: 1}, hang, hang), kids(api.Term{Kind: api.TermSeq, Id: 1}, hang, hang),
		kids(api.Term{Kind: api.TermAs, N: 1, M: 1}, hang), kids(api.Term{Kind: api.TermAs}, hang), kids(api.Term{Kind: api.TermAs, N: -1}, hang),
		kids(api.Term{Kind: api.TermOp, M: 1}, hang, hang), kids(api.Term{Kind: api.TermOp, N: 6, M: 1}, hang, hang), kids(api.Term{Kind: api.TermOp, N: api.OpAdd, M: 1, Id: 1}, hang, hang), kids(api.Term{Kind: api.TermOp, N: -1, M: 1}, hang, hang),
		kids(api.Term{Kind: api.TermPut, Id: 2, N: 1}, num(0, 3)), kids(api.Term{Kind: api.TermPut, Id: -1}, num(0, 3)), kids(api.Term{Kind: api.TermUse, Id: 3, M: 1}, num(0, 3), api.Term{Kind: api.TermCell, Id: 4}),
		kids(api.Term{Kind: api.TermUse, Id: 3}, num(0, 3), api.Term{Kind: api.TermCell, Id: 4, N: 1}), kids(api.Term{Kind: api.TermUse, Id: 3}, num(0, 3), kids(api.Term{Kind: api.TermCell, Id: 4}, hang)), kids(api.Term{Kind: api.TermUse, Id: 3}, num(0, 3), kids(api.Term{Kind: api.TermObject, Id: 1}, num(0, 2), hang)),
		kids(api.Term{Kind: api.TermLabel}, api.Term{Kind: api.TermJump, N: -1}, hang), kids(api.Term{Kind: api.TermLabel}, api.Term{Kind: api.TermJump, M: 1}, hang), kids(api.Term{Kind: api.TermLabel, N: 1}, hang, hang),
		kids(api.Term{Kind: api.TermNew, N: 2, M: -1}, hang), kids(api.Term{Kind: api.TermNew, N: 2, Id: 5}, hang), kids(api.Term{Kind: api.TermNew, N: 2}, kids(api.Term{Kind: api.TermNotice, Id: 5, N: -1}, hang)), kids(api.Term{Kind: api.TermNew, N: 2}, kids(api.Term{Kind: api.TermNotice, Id: 5, M: 1}, hang)),
	} {
		if e := Check(a, u); e != api.ErrForm {
			t.Errorf("%v: %v", u, e)
		}
	}
}

// P7.2: where Root is a cell a term is an argument for it.
func TestRightForCell(t *testing.T) {
	a := readArena(t, "cell 3; cell 3; cell 2; int 3")
	for s, want := range map[string]api.Errno{"&1": api.OK, "obj(!1,=1(#4))": api.OK, "obj(x3,hang)": api.OK, "&2": api.ErrForm, "&3": api.ErrForm, "&4": api.ErrForm, "!1": api.ErrForm, "x3": api.ErrForm, "2/3": api.ErrForm, "obj(0/2,0/1)": api.ErrForm, "obj(0/3,0/3)": api.ErrForm, "new/3/0(&4)": api.ErrForm, "seq(hang,&1)": api.ErrForm} {
		u := read(s)
		n, e := Size(a, u)
		if e != want || Check(a, u) != want || n == 3 != (want == api.OK) {
			t.Errorf("%s: %d, %v", s, n, e)
		}
	}
}

// P7.2, P7.3: a term has at most MaxCore nodes; that is an error before the others, but for those of the arena.
func TestMaxCore(t *testing.T) {
	a := readArena(t, "int 1")
	round := kids(api.Term{Kind: api.TermSeq}, num(0, 1), num(0, 1))
	round.Kids[1] = round // it holds itself
	for _, x := range []struct {
		u api.Term
		n int
		e api.Errno
	}{
		{api.Term{}, 1, api.OK}, {hangs(2), 2, api.OK}, {hangs(5), 5, api.OK}, {hangs(api.MaxCore - 1), api.MaxCore - 1, api.OK}, {hangs(api.MaxCore), api.MaxCore, api.OK}, {hangs(api.MaxCore + 1), 0, api.ErrLimit}, {round, 0, api.ErrLimit}, {api.Term{Kind: 99, Kids: make([]api.Term, api.MaxCore-1)}, api.MaxCore, api.OK}, {api.Term{Kind: 99, Kids: make([]api.Term, api.MaxCore)}, 0, api.ErrLimit},
	} {
		n, e := Nodes(x.u)
		if n != x.n || e != x.e {
			t.Errorf("Nodes: %d, %v, not %d, %v", n, e, x.n, x.e)
		}
		if e := Check(a, x.u); (e == api.ErrLimit) != (x.e == api.ErrLimit) || x.u.Kind != 99 && x.u.Kind != 0 && e != x.e {
			t.Errorf("Check of %d: %v", x.n, e)
		}
	}
}

// P7.3: the identifiers of the arena that a term names, whatever for.
func TestUses(t *testing.T) {
	a := readArena(t, around)
	for s, want := range map[string][]int{
		"0/1": nil, "hang": nil, "=2(!2)": {2}, "=4(x1)": {1, 4}, "x3(!2,&4)": {2, 3, 4}, "x3(as/3(x1),obj(x1,=2(!2)))": {1, 2, 3}, "new/2/0(=5(!5))": nil, "new/2/0(x3(0/3,&5))": {3}, "x3(0/3,obj(0/2,while(#5,hang)))": {3}, "new/2/0(notice/5/1(hang))": nil, "new/2/0(notice/5/1(=4(!5)))": {4},
	} {
		l, e := Uses(a, term(t, a, s))
		if !slices.Equal(l, want) || e != api.OK {
			t.Errorf("%s: %v, %v", s, l, e)
		}
	}
	if l, e := Uses(api.Arena{Root: api.Base{N: 1}}, num(0, 1)); len(l) > 0 || e != api.OK {
		t.Errorf("nothing to use: %v, %v", l, e)
	}
	if l, e := Uses(a, term(t, a, strings.Repeat("seq(=2(!2),", 3)+"=4(x1)"+strings.Repeat(")", 3))); !slices.Equal(l, []int{1, 2, 4}) || e != api.OK {
		t.Errorf("several times: %v, %v", l, e)
	}
}
