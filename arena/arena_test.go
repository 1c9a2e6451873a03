package arena

import (
	"slices"
	"strings"
	"testing"

	"riposte/api"
)

// P4.1: arenas without errors, also at the limits.
func TestCheckRight(t *testing.T) {
	five := slices.Repeat([]api.Base{number(64)}, api.MaxParams)
	for i, a := range []api.Arena{
		{Root: number(1)}, {Root: number(64)}, {Root: cell(1)}, {Root: cell(64), Jumps: true}, {Root: number(2), Ids: []api.Type{}},
		{Root: number(2), Ids: []api.Type{alone(cell(64)), {Params: []api.Base{}, Result: cell(1)}}},
		{Root: number(2), Ids: []api.Type{function(number(64), cell(64)), function(number(1), five...)}},
		{Root: cell(2), Ids: slices.Repeat([]api.Type{function(number(3), five...)}, api.MaxIds)},
	} {
		if e := Check(a); e != api.OK {
			t.Errorf("%d: Check of %v: %v", i, a, e)
		}
	}
	for a := range arenas {
		if e := Check(a); e != api.OK {
			t.Errorf("Check of %v: %v", a, e)
		}
	}
}

// P4.1, R1, R2: the errors of an arena, ErrLimit before ErrForm, come first in each function, whatever else is wrong, and with zero values alone.
func TestFirstErrors(t *testing.T) {
	moves := []api.Move{{}, {Kind: api.MoveAsk}, {Kind: api.MoveTell}, {Id: 1, Kind: api.MoveAsk}, {Id: -1, Arg: 9, Kind: 7, N: 1 << 62}}
	for want, l := range flawed() {
		for i, a := range l {
			fails := func(name string, zero bool, e api.Errno) {
				if e != want || !zero {
					t.Errorf("%s of the flawed arena %d: %v, not %v; zero values: %v", name, i, e, want, zero)
				}
			}
			fails("Check", true, Check(a))
			all, e := Moves(a)
			fails("Moves", all == nil, e)
			for _, m := range moves {
				has, e := Has(a, m)
				fails("Has", !has, e)
				other, e := IsOther(a, m)
				fails("IsOther", !other, e)
				answers, e := Answers(a, m)
				fails("Answers", answers == nil, e)
				under, e := Under(a, m)
				fails("Under", under == nil, e)
			}
			for _, id := range []int{-1, 0, 1, 2} {
				b, e := Place(a, id, 0)
				fails("Place", b == api.Base{}, e)
				inner, e := Inner(a, id)
				fails("Inner", alike(inner, api.Arena{}), e)
			}
			for _, l := range [][]api.Type{nil, {alone(number(2))}, {{}}, make([]api.Type, api.MaxIds+1)} {
				more, e := Add(a, l)
				fails("Add", alike(more, api.Arena{}), e)
			}
			s, e := Show(a)
			fails("Show", s == "", e)
		}
	}
}

// P4.6: the base types of places, and what is no place.
func TestPlace(t *testing.T) {
	a := of(t, example)
	for _, x := range []struct {
		id, arg int
		b       api.Base
		e       api.Errno
	}{
		{0, 0, number(2), api.OK}, {1, 0, number(1), api.OK}, {1, 1, number(3), api.OK}, {1, 2, cell(2), api.OK}, {2, 0, cell(2), api.OK},
		{0, 1, api.Base{}, api.ErrNone}, {0, -1, api.Base{}, api.ErrNone}, {1, 3, api.Base{}, api.ErrNone}, {1, -1, api.Base{}, api.ErrNone}, {2, 1, api.Base{}, api.ErrNone},
		{3, 0, api.Base{}, api.ErrNone}, {3, 1, api.Base{}, api.ErrNone}, {-1, 0, api.Base{}, api.ErrNone}, {-1, -1, api.Base{}, api.ErrNone},
		{1 << 62, 0, api.Base{}, api.ErrNone}, {-1 << 63, 0, api.Base{}, api.ErrNone}, {1, 1<<63 - 1, api.Base{}, api.ErrNone}, {1<<63 - 1, -1 << 63, api.Base{}, api.ErrNone},
	} {
		if b, e := Place(a, x.id, x.arg); b != x.b || e != x.e {
			t.Errorf("Place of %d, %d: %v, %v, not %v, %v", x.id, x.arg, b, e, x.b, x.e)
		}
	}
}

// P4.6: arenas of what stands for identifiers, and what is no identifier.
func TestInner(t *testing.T) {
	for _, x := range []struct {
		a     string
		id    int
		inner string
	}{
		{example, 1, "int 1; int 3; cell 2; jumps"}, {example, 2, "cell 2"}, {example + "; jumps", 1, "int 1; int 3; cell 2; jumps"}, {example + "; jumps", 2, "cell 2; jumps"},
		{"int 9; int 4; (cell 5) -> int 6", 1, "int 4"}, {"int 9; int 4; (cell 5) -> int 6", 2, "int 6; cell 5; jumps"},
		{"cell 1; (int 1, int 2, int 3, int 4, int 5) -> int 6", 1, "int 6; int 1; int 2; int 3; int 4; int 5; jumps"},
	} {
		inner, e := Inner(of(t, x.a), x.id)
		if e != api.OK || !alike(inner, of(t, x.inner)) {
			t.Errorf("Inner of %q and %d: %v, %v", x.a, x.id, inner, e)
		}
	}
	for _, s := range []string{example, "int 2; jumps"} {
		for _, id := range []int{0, -1, 3, -1 << 63, 1<<63 - 1} {
			if inner, e := Inner(of(t, s), id); e != api.ErrNone || !alike(inner, api.Arena{}) {
				t.Errorf("Inner of %q and %d: %v, %v", s, id, inner, e)
			}
		}
	}
}

// P4.6: further types stand behind the others.
func TestAdd(t *testing.T) {
	for _, x := range []struct {
		a    string
		l    []api.Type
		more string
	}{
		{example, nil, example}, {example, []api.Type{}, example}, {example, []api.Type{alone(number(7))}, example + "; int 7"},
		{"cell 3; jumps", []api.Type{alone(cell(64)), function(number(2), number(1), cell(4))}, "cell 3; cell 64; (int 1, cell 4) -> int 2; jumps"},
		{"int 1", slices.Repeat([]api.Type{alone(number(2))}, api.MaxIds), "int 1" + strings.Repeat("; int 2", api.MaxIds)},
		{"int 1" + strings.Repeat("; int 2", api.MaxIds-1), []api.Type{alone(cell(2))}, "int 1" + strings.Repeat("; int 2", api.MaxIds-1) + "; cell 2"},
	} {
		more, e := Add(of(t, x.a), x.l)
		if e != api.OK || !alike(more, of(t, x.more)) {
			t.Errorf("Add of %q and %v: %v, %v", x.a, x.l, more, e)
		}
	}
}

// P4.6: errors of Add are those of what it would return, in their order.
func TestAddErrors(t *testing.T) {
	eight := "int 1" + strings.Repeat("; int 2", api.MaxIds)
	for i, x := range []struct {
		a string
		l []api.Type
		e api.Errno
	}{
		{example, []api.Type{{}}, api.ErrForm}, {example, []api.Type{alone(number(2)), alone(number(65))}, api.ErrForm}, {example, []api.Type{function(cell(2), number(2))}, api.ErrForm}, {example, []api.Type{function(number(2), number(0))}, api.ErrForm},
		{eight, []api.Type{alone(number(2))}, api.ErrLimit}, {eight, []api.Type{{}}, api.ErrLimit}, {example, slices.Repeat([]api.Type{alone(number(2))}, api.MaxIds-1), api.ErrLimit}, {"int 1", make([]api.Type, api.MaxIds+1), api.ErrLimit},
		{example, []api.Type{function(number(2), slices.Repeat([]api.Base{number(2)}, api.MaxParams+1)...)}, api.ErrLimit}, {example, []api.Type{{}, function(number(2), make([]api.Base, api.MaxParams+1)...)}, api.ErrLimit},
	} {
		if more, e := Add(of(t, x.a), x.l); e != x.e || !alike(more, api.Arena{}) {
			t.Errorf("%d: Add of %q: %v, %v, not %v", i, x.a, more, e, x.e)
		}
	}
	if _, e := Add(api.Arena{}, make([]api.Type, api.MaxIds+1)); e != api.ErrForm {
		t.Errorf("Add of a wrong arena and too many types: %v, not that of the arena", e)
	}
}

// R4: what is returned shares no memory with what was handed over, nor with itself, and spare room stays as it is.
func TestOwnMemory(t *testing.T) {
	params := []api.Base{number(2), cell(3), number(7)}
	ids := []api.Type{function(number(2), params[:2]...), function(number(3), params[:2]...), alone(number(9))}
	a := api.Arena{Ids: ids[:2], Root: number(4)}
	l := []api.Type{function(number(5), params[:2]...), alone(number(8))}
	before := twin(a)

	more, e := Add(a, l[:1])
	if e != api.OK || ids[2].Result != number(9) || l[1].Result != number(8) || params[2] != number(7) || !alike(a, before) {
		t.Fatalf("Add of %v: %v, %v, %v", a, ids, l, e)
	}
	more.Ids[0].Params[0] = number(63)
	more.Ids[0].Result = number(62)
	more.Ids[2].Result = number(61)
	if !alike(a, before) || l[0].Result != number(5) || params[0] != number(2) {
		t.Errorf("what Add returned is shared: %v, %v", a, l)
	}
	if more.Ids[1].Params[0] != number(2) || more.Ids[2].Params[0] != number(2) {
		t.Errorf("what Add returned is shared by itself: %v", more)
	}
	grown := append(more.Ids[0].Params, number(60))
	if grown[2] != number(60) || params[2] != number(7) {
		t.Errorf("what Add returned has spare room in common: %v", params)
	}

	inner, e := Inner(a, 1)
	if e != api.OK {
		t.Fatalf("Inner of %v: %v", a, e)
	}
	inner.Ids[0].Result = number(59)
	if again, _ := Inner(a, 1); !alike(a, before) || again.Ids[0].Result != number(2) {
		t.Errorf("what Inner returned is shared: %v", a)
	}
	for _, call := range []func() []api.Move{
		func() []api.Move { l, _ := Moves(a); return l },
		func() []api.Move { l, _ := Answers(a, api.Move{Kind: api.MoveAsk}); return l },
		func() []api.Move { l, _ := Under(a, api.Move{Kind: api.MoveAsk}); return l },
	} {
		l := call()
		want := slices.Clone(l)
		clear(l)
		if again := call(); !slices.Equal(again, want) {
			t.Errorf("moves that were returned are shared: %v, not %v", again, want)
		}
	}
	read := of(t, example)
	read.Ids[0].Params[0] = number(58)
	if s, _ := Show(of(t, example)); s != example {
		t.Errorf("what Read returned is shared: %q", s)
	}
}

// R3: nil and empty lists are the same.
func TestNilAndEmpty(t *testing.T) {
	a := api.Arena{Ids: []api.Type{{Result: cell(2)}, {Result: number(3)}}, Root: number(2)}
	b := api.Arena{Ids: []api.Type{{Params: []api.Base{}, Result: cell(2)}, {Params: make([]api.Base, 0, 5), Result: number(3)}}, Root: number(2)}
	x, e := Moves(a)
	y, f := Moves(b)
	if e != api.OK || f != api.OK || !slices.Equal(x, y) || texts(t, x) != "0? 0!0 0!1 1? 1=0 1=1 1!0 1!1 2? 2!0 2!1 2!2" {
		t.Errorf("Moves: %v, %v and %v, %v", x, e, y, f)
	}
	if s, e := Show(b); s != "int 2; cell 2; int 3" || e != api.OK {
		t.Errorf("Show: %q, %v", s, e)
	}
	if inner, e := Inner(b, 1); !alike(inner, api.Arena{Root: cell(2)}) || e != api.OK {
		t.Errorf("Inner: %v, %v", inner, e)
	}
	none := api.Arena{Ids: []api.Type{}, Root: number(1)}
	if l, e := Under(none, api.Move{Kind: api.MoveAsk}); len(l) != 0 || e != api.OK {
		t.Errorf("Under: %v, %v", l, e)
	}
	if more, e := Add(none, nil); !alike(more, none) || e != api.OK {
		t.Errorf("Add: %v, %v", more, e)
	}
}
