package core

import (
	"slices"
	"testing"

	"riposte/api"
)

// P7.6: identifiers of the arena have other numbers, in all kinds of terms; others do not.
func TestRenumber(t *testing.T) {
	a := readArena(t, around+"; jumps")
	for _, x := range []struct {
		to             []int
		s, want, arena string
	}{
		{[]int{1, 2, 3, 4}, "x3(!2,&4)", "x3(!2,&4)", "int 1; int 2; cell 3; (int 3, cell 2) -> int 1; cell 2; jumps"},
		{[]int{2, 3, 4, 1}, "x3(!2,&4)", "x4(!3,&1)", "int 1; cell 2; int 2; cell 3; (int 3, cell 2) -> int 1; jumps"},
		{[]int{4, 3, 2, 1}, "=4(x1)", "=1(x4)", "int 1; cell 2; (int 3, cell 2) -> int 1; cell 3; int 2; jumps"},
		{[]int{3, 1, 2, 4}, "new/2/0(seq(=5(x1),notice/5/1(x3(!2,obj(!5,=4(#6))))))", "new/2/0(seq(=5(x3),notice/5/1(x2(!1,obj(!5,=4(#6))))))", "int 1; cell 3; (int 3, cell 2) -> int 1; int 2; cell 2; jumps"},
		{[]int{2, 1, 4, 3}, "label(jump/0,hang)", "label(jump/0,hang)", "int 1; cell 3; int 2; cell 2; (int 3, cell 2) -> int 1; jumps"},
	} {
		b, u, e := Renumber(a, term(t, a, x.s), x.to)
		if shown(b) != x.arena || text(b, u) != x.want || e != api.OK {
			t.Errorf("%s by %v: %s in %s, %v", x.s, x.to, text(b, u), shown(b), e)
		}
	}
	c := readArena(t, "cell 3; cell 2; cell 3")
	if b, u, e := Renumber(c, term(t, c, "&2"), []int{2, 1}); text(b, u) != "&1" || shown(b) != "cell 3; cell 3; cell 2" || e != api.OK {
		t.Errorf("a cell: %s in %s, %v", text(b, u), shown(b), e)
	}
	if b, u, e := Renumber(api.Arena{Root: api.Base{N: 1}}, num(0, 1), nil); text(b, u) != "0/1" || len(b.Ids) > 0 || e != api.OK {
		t.Errorf("nothing: %s in %s, %v", text(b, u), shown(b), e)
	}
}

// P7.6: to is each number once.
func TestRenumberErrors(t *testing.T) {
	a := readArena(t, around)
	u := term(t, a, "x3(!2,&4)")
	for _, to := range [][]int{nil, {}, {1}, {1, 2, 3}, {1, 2, 3, 4, 5}, {1, 2, 3, 3}, {0, 1, 2, 3}, {2, 3, 4, 5}, {1, 2, 3, -4}, {1, 1, 1, 1}, {1, 2, 3, 1 << 62}, {1, 2, 2, 5}, make([]int, 1000)} {
		before := slices.Clone(to)
		b, v, e := Renumber(a, u, to)
		if e != api.ErrArg || !sameArena(b, api.Arena{}) || !sameTerm(v, api.Term{}) || !slices.Equal(before, to) {
			t.Errorf("%v: %s, %v, %v", to, shown(b), v, e)
		}
	}
}
