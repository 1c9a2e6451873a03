package core

import (
	"testing"

	"riposte/api"
)

// outcome is the error of a function, and whether its other results are zero values.
type outcome struct {
	name string
	e    api.Errno
	zero bool
}

// outcomes calls all functions with an arena and a term, as far as they have the errors of a term.
func outcomes(a api.Arena, u api.Term, to []int) []outcome {
	l := []outcome{{"Check", Check(a, u), true}}
	n, e := Size(a, u)
	l = append(l, outcome{"Size", e, n == 0})
	uses, e := Uses(a, u)
	l = append(l, outcome{"Uses", e, len(uses) == 0})
	s, e := Text(a, u)
	l = append(l, outcome{"Text", e, s == ""})
	v, e := Tree(a, u)
	l = append(l, outcome{"Tree", e, len(v.Nodes) == 0})
	b, w, e := Renumber(a, u, to)
	return append(l, outcome{"Renumber", e, sameArena(b, api.Arena{}) && sameTerm(w, api.Term{})})
}

// P7.2 to P7.6: the errors of a term come first, those of the arena before them.
func TestErrorsOfTerms(t *testing.T) {
	good, wrong := readArena(t, around), api.Arena{}
	cell := readArena(t, "cell 2")
	many := api.Arena{Ids: make([]api.Type, api.MaxIds+1)}
	full := api.Arena{Ids: []api.Type{{Params: make([]api.Base, api.MaxParams+1)}}}
	odd := api.Arena{Ids: []api.Type{{Params: []api.Base{{N: 2}}, Result: api.Base{Cell: true, N: 2}}}, Root: api.Base{N: 1}}
	for _, x := range []struct {
		a api.Arena
		u api.Term
		e api.Errno
	}{
		{wrong, num(0, 1), api.ErrForm}, {wrong, hangs(api.MaxCore + 1), api.ErrForm}, {wrong, api.Term{}, api.ErrForm},
		{many, num(0, 1), api.ErrLimit}, {many, api.Term{}, api.ErrLimit}, {full, api.Term{}, api.ErrLimit}, {odd, num(0, 1), api.ErrForm}, {odd, hangs(api.MaxCore + 1), api.ErrForm},
		{good, hangs(api.MaxCore + 1), api.ErrLimit}, {cell, hangs(api.MaxCore + 1), api.ErrLimit}, {good, kids(api.Term{Kind: 99}, hangs(api.MaxCore)), api.ErrLimit},
		{good, api.Term{}, api.ErrForm}, {good, kids(api.Term{Kind: 99}, hangs(api.MaxCore-1)), api.ErrForm}, {good, num(0, 2), api.ErrForm}, {cell, num(0, 2), api.ErrForm},
	} {
		for _, y := range outcomes(x.a, x.u, []int{5}) {
			if y.e != x.e || !y.zero {
				t.Errorf("%s in %s: %v, %v, not %v", y.name, shown(x.a), y.e, y.zero, x.e)
			}
		}
	}
}

// P7.4: the errors of Parse, in their order.
func TestErrorsOfParse(t *testing.T) {
	good, long := readArena(t, around), make([]byte, api.MaxCoreText+1)
	for _, x := range []struct {
		a api.Arena
		s string
		e api.Errno
	}{
		{api.Arena{}, "0/1", api.ErrForm}, {api.Arena{}, string(long), api.ErrForm}, {api.Arena{Ids: make([]api.Type, api.MaxIds+1)}, "", api.ErrLimit},
		{good, string(long), api.ErrLimit}, {good, string(long[1:]), api.ErrForm}, {good, "", api.ErrForm}, {good, "0/2", api.ErrForm}, {good, "x2", api.ErrForm},
	} {
		if u, e := Parse(x.a, x.s); e != x.e || !sameTerm(u, api.Term{}) {
			t.Errorf("%d bytes in %s: %v, %v, not %v", len(x.s), shown(x.a), u, e, x.e)
		}
	}
}

// R4: results have memory of their own; arguments, and what is behind them, stay as they were.
func TestOwnMemory(t *testing.T) {
	a := readArena(t, around)
	a.Ids = append(make([]api.Type, 0, 9), a.Ids...)
	spare := a.Ids[:9][4:]
	s := "new/2/0(x3(!2,obj(!5,=4(#6))))"
	u := term(t, a, s)
	u.Kids = append(make([]api.Term, 0, 4), u.Kids...)
	to := append(make([]int, 0, 8), 2, 1, 4, 3)
	b, v, _ := Renumber(a, u, to)
	w, _ := Tree(a, u)
	uses, _ := Uses(a, u)
	b.Ids[3].Params[0].N, v.Kids[0].Kids[0].Id, w.Nodes[0].Kind, uses[0] = 9, 9, 9, 9
	if text(a, u) != s || shown(a) != around || to[0] != 2 || to[:5][4] != 0 || spare[0].Result.N != 0 || u.Kids[:2][1].Kind != 0 {
		t.Errorf("%s in %s by %v", text(a, u), shown(a), to)
	}
	x := tree(t, "import f:(bool)->com; def d(y:com):com=y;y; export m():com=d(f(true));")
	before := printed(x)
	c, r, _ := Of(x, "m", false)
	c.Ids[0].Params[0].N = 5
	r.Kids[0].Kids[0].N = 0
	if d, again, _ := Of(x, "m", false); text(d, again) != "seq(x1(1/2),x1(1/2))" || r.Kids[1].Kids[0].N != 1 || printed(x) != before {
		t.Errorf("%s, %v of %s", text(d, again), r, printed(x))
	}
}

// R3: nil and empty lists are the same.
func TestNilAndEmpty(t *testing.T) {
	a := api.Arena{Ids: []api.Type{{Params: []api.Base{}, Result: api.Base{N: 1}}}, Root: api.Base{N: 1}}
	u := kids(api.Term{Kind: api.TermSeq}, api.Term{Kind: api.TermUse, Id: 1, Kids: []api.Term{}}, api.Term{Kind: api.TermHang, Kids: []api.Term{}})
	s, e := Text(a, u)
	v, f := Tree(a, u)
	b, w, g := Renumber(a, u, []int{1})
	if s != "seq(x1,hang)" || e != api.OK || printed(v) != "import x1:com;\nexport main():com=x1;hang;\n" || f != api.OK || text(b, w) != s || g != api.OK {
		t.Errorf("%s, %v; %s, %v; %v", s, e, printed(v), f, g)
	}
	none := api.Arena{Ids: []api.Type{}, Root: api.Base{N: 1}}
	if _, u, e := Renumber(none, num(0, 1), []int{}); text(none, u) != "0/1" || e != api.OK {
		t.Errorf("%v, %v", u, e)
	}
}
