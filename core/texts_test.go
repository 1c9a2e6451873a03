package core

import (
	"strings"
	"testing"

	"riposte/api"
)

// P7.4: the text of each kind of term, there and back.
func TestTexts(t *testing.T) {
	a := readArena(t, around)
	cell := func(id int) api.Term { return api.Term{Kind: api.TermCell, Id: id} }
	hang := api.Term{Kind: api.TermHang}
	get := func(id int) api.Term { return api.Term{Kind: api.TermGet, Id: id} }
	op := func(n, m int) api.Term {
		return kids(api.Term{Kind: api.TermAs, N: 1}, kids(api.Term{Kind: api.TermOp, N: n, M: m}, num(0, m), num(m-1, m)))
	}
	for _, x := range []struct {
		u    api.Term
		want string
	}{
		{num(0, 1), "0/1"},
		{kids(api.Term{Kind: api.TermAs, N: 1}, num(63, 64)), "as/1(63/64)"},
		{kids(api.Term{Kind: api.TermAs, N: 1}, api.Term{Kind: api.TermUse, Id: 1}), "as/1(x1)"},
		{kids(api.Term{Kind: api.TermUse, Id: 3}, get(2), cell(4)), "x3(!2,&4)"},
		{kids(api.Term{Kind: api.TermPut, Id: 4}, get(4)), "=4(!4)"},
		{op(api.OpAdd, 12), "as/1(add/12(0/12,11/12))"}, {op(api.OpSub, 2), "as/1(sub/2(0/2,1/2))"}, {op(api.OpMul, 3), "as/1(mul/3(0/3,2/3))"}, {op(api.OpEq, 4), "as/1(eq/4(0/4,3/4))"}, {op(api.OpLess, 5), "as/1(less/5(0/5,4/5))"},
		{kids(api.Term{Kind: api.TermSeq}, hang, hang), "seq(hang,hang)"},
		{kids(api.Term{Kind: api.TermIf}, hang, hang, hang), "if(hang,hang,hang)"},
		{kids(api.Term{Kind: api.TermWhile}, hang, hang), "while(hang,hang)"},
		{kids(api.Term{Kind: api.TermNew, N: 12, M: 10}, hang), "new/12/10(hang)"},
		{kids(api.Term{Kind: api.TermNew, N: 12, M: 10}, kids(api.Term{Kind: api.TermNotice, Id: 5, N: 11}, hang)), "new/12/10(notice/5/11(hang))"},
		{kids(api.Term{Kind: api.TermLabel}, api.Term{Kind: api.TermJump}, hang), "label(jump/0,hang)"},
		{kids(api.Term{Kind: api.TermChoose}, hang, hang), "choose(hang,hang)"},
		{hang, "hang"},
		{kids(api.Term{Kind: api.TermUse, Id: 3}, num(0, 3), kids(api.Term{Kind: api.TermObject}, num(1, 2), kids(api.Term{Kind: api.TermPut, Id: 4}, api.Term{Kind: api.TermVal, Id: 5}))), "x3(0/3,obj(1/2,=4(#5)))"},
	} {
		s, e := Text(a, x.u)
		u, f := Parse(a, x.want)
		if s != x.want || e != api.OK || !sameTerm(u, x.u) || f != api.OK {
			t.Errorf("%s: %s, %v; %v, %v", x.want, s, e, u, f)
		}
	}
}

// P7.4: what is the text of no term.
func TestNoTexts(t *testing.T) {
	a := readArena(t, around)
	for _, s := range []string{
		"", " ", "0", "0/", "/1", "0/1/", "0/1/1", "00/1", "0/01", "+0/1", "-0/1", "0/+1", "0 /1", " 0/1", "0/1 ", "0/1\n", "0/1)", "(0/1)", "0/1()", "0/1,", "0/1,0/1", "0/9999999999999999999999", "99999999999999999999999/1", "0/1x", "x0/1", "a/1", "0\\1", "0x0/1", "0_0/1", "٠/1",
		"hang()", "hang0", "hang/", "Hang", "han", "hangs", "hang(", "seq", "seq()", "seq(hang)", "seq(hang,)", "seq(,hang)", "seq(hang,hang", "seq(hang,hang))", "seq(hang, hang)", "seq (hang,hang)", "seq(hang;hang)", "seq(hang,hang)hang", "seq(hang,hang)(hang)", "seq0(hang,hang)", "seq/(hang,hang)", "seq(hang,(hang))",
		"as1(hang)", "as(hang)", "as//1(hang)", "as/1/1(hang)", "as/01(hang)", "as/1hang", "as/x1", "jump", "jump/", "label(jump0,hang)", "label(jump/00,hang)", "label(jump/-0,hang)", "add(hang,hang)", "add/1/1(hang,hang)", "1add/1(hang,hang)", "op/1(hang,hang)", "add/01(hang,hang)",
		"new/2(hang)", "new/2/0/0(hang)", "new/2/00(hang)", "new2/0(hang)", "new/2/0(notice/5(hang))", "new/2/0(notice/05/0(hang))", "new/2/0(notice5/0(hang))", "x", "x/1", "xx1", "as/1(x01)", "as/1(x1/)", "as/1(x1/2)", "=2(!2", "=2!2", "=02(!2)", "=2(!02)", "=2(!+2)", "x3(0/3,& 4)", "x3(0/3,4)", "x3(0/3,obj(0/2,while(#05,hang)))", "x3(0/3,&4,)", "x3(0/3,,&4)", "x3(,0/3,&4)", "x3",
	} {
		if u, e := Parse(a, s); e != api.ErrForm || !sameTerm(u, api.Term{}) {
			t.Errorf("%q: %v, %v", s, u, e)
		}
	}
}

// P7.4: a text has at most MaxCoreText bytes, and the term of one at most MaxCore nodes.
func TestTextLimits(t *testing.T) {
	a := readArena(t, "int 1; (int 1, int 1) -> int 1")
	for _, x := range []struct {
		s string
		e api.Errno
	}{
		{written(hangs(api.MaxCore)), api.OK},
		{written(hangs(api.MaxCore - 1)), api.OK},
		{written(hangs(api.MaxCore + 1)), api.ErrForm},
		{strings.Repeat("(", api.MaxCoreText), api.ErrForm},
		{strings.Repeat("as/1(", api.MaxCoreText/5), api.ErrForm},
		{strings.Repeat("x", api.MaxCoreText), api.ErrForm},
		{strings.Repeat("x", api.MaxCoreText+1), api.ErrLimit},
		{strings.Repeat(",", api.MaxCoreText+1), api.ErrLimit},
	} {
		u, e := Parse(a, x.s)
		if e != x.e || e == api.OK && text(a, u) != x.s {
			t.Errorf("%d bytes: %v, not %v", len(x.s), e, x.e)
		}
	}
}

// P7.4: the longest text of a term that is right has no more than MaxCoreText bytes.
func TestLongestText(t *testing.T) {
	a := readArena(t, "int 1"+strings.Repeat("; int 1", api.MaxIds))
	u := api.Term{Kind: api.TermHang}
	for id := range 99 {
		for range 5 {
			u = kids(api.Term{Kind: api.TermNotice, Id: api.MaxIds + 1 + 98 - id, N: 63}, u)
		}
		u = kids(api.Term{Kind: api.TermNew, N: 64, M: 63}, u)
	}
	s, e := Text(a, u)
	v, f := Parse(a, s)
	if n, _ := Nodes(u); n < 590 || e != api.OK || f != api.OK || len(s) > api.MaxCoreText || !sameTerm(u, v) {
		t.Errorf("%d nodes: %d bytes, %v, %v", n, len(s), e, f)
	}
}

// P7.8: in random texts of terms one byte is another one; what is still a text is that of another term.
func TestSpoiledTexts(t *testing.T) {
	r := source(1)
	read := 0
	for range 600 {
		a, u := anyTerm(r)
		s := text(a, u)
		for range 30 {
			at := r.IntN(len(s))
			sign := pick(r, "0", "1", "2", "3", "/", "(", ")", ",", "x", "!", "=", "#", "&", "")
			other := s[:at] + sign + s[at+r.IntN(2):]
			v, e := Parse(a, other)
			if e != api.OK && e != api.ErrForm || e == api.OK && (text(a, v) != other || sameTerm(u, v) != (s == other)) {
				t.Fatalf("%s in %s: %v", other, shown(a), e)
			}
			if e == api.OK && s != other {
				read++
			}
		}
	}
	if read < 50 {
		t.Errorf("only %d others", read)
	}
}

// P7.8: different terms have different texts; the text of a term is that of it alone.
func TestTextsDiffer(t *testing.T) {
	r := source(2)
	seen := map[string]api.Term{}
	a := anyArena(r)
	for range 3000 {
		u := (&termMaker{Rand: r, left: r.IntN(12)}).in(a)
		s := text(a, u)
		if v, ok := seen[s]; ok && !sameTerm(u, v) {
			t.Fatalf("%s: %v and %v", s, u, v)
		}
		seen[s] = u
	}
	if len(seen) < 500 {
		t.Errorf("only %d", len(seen))
	}
}
