package arena

import (
	"slices"
	"testing"

	"riposte/api"
)

// P4.2: all moves, ascending.
func TestMoves(t *testing.T) {
	for a, want := range map[string]string{
		example:                           "0? 0!0 0!1 1? 1!* 1!0 1.1? 1.1!* 1.1!0 1.1!1 1.1!2 1.2? 1.2=0 1.2=1 1.2!* 1.2!0 1.2!1 2? 2=0 2=1 2!0 2!1",
		example + "; jumps":               "0? 0!* 0!0 0!1 1? 1!* 1!0 1.1? 1.1!* 1.1!0 1.1!1 1.1!2 1.2? 1.2=0 1.2=1 1.2!* 1.2!0 1.2!1 2? 2=0 2=1 2!* 2!0 2!1",
		"int 1":                           "0? 0!0",
		"cell 1":                          "0? 0=0 0!0",
		"cell 3; jumps":                   "0? 0=0 0=1 0=2 0!* 0!0 0!1 0!2",
		"int 2; (int 2) -> int 1; int 2":  "0? 0!0 0!1 1? 1!* 1!0 1.1? 1.1!* 1.1!0 1.1!1 2? 2!0 2!1",
		"int 1; int 1; (cell 1) -> int 1": "0? 0!0 1? 1!0 2? 2!* 2!0 2.1? 2.1=0 2.1!* 2.1!0",
	} {
		if l, e := Moves(of(t, a)); texts(t, l) != want || e != api.OK {
			t.Errorf("Moves of %q: %s, %v, not %s", a, texts(t, l), e, want)
		}
	}
}

// P4.2, R7: the moves of the largest arena.
func TestMovesOfLargest(t *testing.T) {
	five := slices.Repeat([]api.Base{cell(api.MaxSize)}, api.MaxParams)
	a := api.Arena{Ids: slices.Repeat([]api.Type{function(number(api.MaxSize), five...)}, api.MaxIds), Root: cell(api.MaxSize), Jumps: true}
	ofNumber, ofCell := 1+1+64, 1+64+1+64
	if l, e := Moves(a); len(l) != ofCell+8*(ofNumber+5*ofCell) || e != api.OK {
		t.Errorf("%d moves, %v", len(l), e)
	}
	for _, m := range []api.Move{{Id: 8, Arg: 5, Kind: api.MovePut, N: 63}, {Id: 8, Arg: 5, Kind: api.MoveTell, N: 63}, {Id: 8, Kind: api.MoveTell, N: 63}, {Kind: api.MovePut, N: 63}} {
		if has, e := Has(a, m); !has || e != api.OK {
			t.Errorf("Has of %v: %v, %v", m, has, e)
		}
	}
	for _, m := range []api.Move{{Id: 8, Arg: 5, Kind: api.MovePut, N: 64}, {Id: 8, Arg: 5, Kind: api.MoveTell, N: 64}, {Id: 8, Kind: api.MoveTell, N: 64}, {Kind: api.MovePut, N: 64}, {Id: 8, Arg: 6, Kind: api.MoveAsk}, {Id: 9, Kind: api.MoveAsk}} {
		if has, e := Has(a, m); has || e != api.OK {
			t.Errorf("Has of %v: %v, %v", m, has, e)
		}
	}
}

// P4.2 to P4.5: what is none of an arena's moves, for all functions with a move; that it is an answer is told later.
func TestNoMoves(t *testing.T) {
	a := of(t, example)
	l := []api.Move{
		{}, {Kind: 4}, {Kind: 255}, {Kind: 4, N: api.Esc}, {Kind: api.MoveAsk, N: 1}, {Kind: api.MoveAsk, N: -1}, {Kind: api.MovePut, N: -1}, {Kind: api.MoveTell, N: -2}, {Kind: api.MoveTell, N: 1 << 62}, {Kind: api.MoveTell, N: -1 << 63},
		{Id: -1, Kind: api.MoveAsk}, {Id: 1, Arg: -1, Kind: api.MoveAsk}, {Id: -1 << 63, Kind: api.MoveAsk}, {Id: 1<<63 - 1, Kind: api.MoveAsk}, {Id: 1, Arg: 1<<63 - 1, Kind: api.MoveAsk}, {Id: 2, Kind: api.MovePut, N: api.Esc}, {Id: 1, Arg: 1, Kind: api.MoveTell, N: -2},
	}
	for _, s := range []string{"0!*", "0!2", "0=0", "1!1", "1=0", "1.1=0", "1.1!3", "1.2=2", "1.2!2", "1.3?", "1.3!*", "2!*", "2!2", "2=2", "2.1?", "3?", "3!0", "0.1?", "0.1!*"} {
		l = append(l, said(t, s))
	}
	for _, m := range l {
		if has, e := Has(a, m); has || e != api.OK {
			t.Errorf("Has of %v: %v, %v", m, has, e)
		}
		if other, e := IsOther(a, m); other || e != api.ErrNone {
			t.Errorf("IsOther of %v: %v, %v", m, other, e)
		}
		if answers, e := Answers(a, m); answers != nil || e != api.ErrNone {
			t.Errorf("Answers of %v: %v, %v", m, answers, e)
		}
		if under, e := Under(a, m); under != nil || e != api.ErrNone {
			t.Errorf("Under of %v: %v, %v", m, under, e)
		}
	}
}

// P4.3 to P4.5: whose questions are, their answers, and what they allow.
func TestQuestions(t *testing.T) {
	for _, x := range []struct {
		a, m, answers, under string
		other                bool
	}{
		{example, "0?", "0!0 0!1", "1? 2? 2=0 2=1", true},
		{example, "1?", "1!* 1!0", "1.1? 1.2? 1.2=0 1.2=1", false},
		{example, "1.1?", "1.1!* 1.1!0 1.1!1 1.1!2", "1? 2? 2=0 2=1", true},
		{example, "1.2?", "1.2!* 1.2!0 1.2!1", "1? 2? 2=0 2=1", true},
		{example, "1.2=1", "1.2!* 1.2!0", "1? 2? 2=0 2=1", true},
		{example, "2?", "2!0 2!1", "", false},
		{example, "2=0", "2!0", "", false},
		{example, "2=1", "2!0", "", false},
		{example + "; jumps", "0?", "0!* 0!0 0!1", "1? 2? 2=0 2=1", true},
		{example + "; jumps", "2=1", "2!* 2!0", "", false},
		{example + "; jumps", "1.2=1", "1.2!* 1.2!0", "1? 2? 2=0 2=1", true},
		{"int 1", "0?", "0!0", "", true},
		{"cell 3", "0?", "0!0 0!1 0!2", "", true},
		{"cell 3", "0=2", "0!0", "", true},
		{"cell 3; jumps", "0=2", "0!* 0!0", "", true},
		{"cell 1; (int 1) -> int 2; (cell 1, int 2) -> int 1", "2?", "2!* 2!0", "2.1? 2.1=0 2.2?", false},
		{"cell 1; (int 1) -> int 2; (cell 1, int 2) -> int 1", "1?", "1!* 1!0 1!1", "1.1?", false},
		{"cell 1; (int 1) -> int 2; (cell 1, int 2) -> int 1", "2.2?", "2.2!* 2.2!0 2.2!1", "1? 2?", true},
		{"cell 1; (int 1) -> int 2; (cell 1, int 2) -> int 1", "0=0", "0!0", "1? 2?", true},
	} {
		a, m := of(t, x.a), said(t, x.m)
		if has, e := Has(a, m); !has || e != api.OK {
			t.Errorf("%q: Has of %s: %v, %v", x.a, x.m, has, e)
		}
		if other, e := IsOther(a, m); other != x.other || e != api.OK {
			t.Errorf("%q: IsOther of %s: %v, %v", x.a, x.m, other, e)
		}
		if l, e := Answers(a, m); texts(t, l) != x.answers || e != api.OK {
			t.Errorf("%q: Answers of %s: %s, %v", x.a, x.m, texts(t, l), e)
		}
		if l, e := Under(a, m); texts(t, l) != x.under || e != api.OK {
			t.Errorf("%q: Under of %s: %s, %v", x.a, x.m, texts(t, l), e)
		}
	}
}

// P4.3 to P4.5: whose answers are, and that they have no answers and allow nothing.
func TestAnswers(t *testing.T) {
	for s, want := range map[string]bool{"0!0": false, "0!1": false, "0!*": false, "1!0": true, "1!*": true, "1.1!*": false, "1.1!2": false, "1.2!*": false, "1.2!0": false, "2!1": true, "2!*": true} {
		a, m := of(t, example+"; jumps"), said(t, s)
		if other, e := IsOther(a, m); other != want || e != api.OK {
			t.Errorf("IsOther of %s: %v, %v", s, other, e)
		}
		if l, e := Answers(a, m); l != nil || e != api.ErrArg {
			t.Errorf("Answers of %s: %v, %v", s, l, e)
		}
		if l, e := Under(a, m); l != nil || e != api.ErrArg {
			t.Errorf("Under of %s: %v, %v", s, l, e)
		}
	}
}

// P4.7, P4.12: an order of any moves: by Id, then Arg, Kind, N.
func TestLess(t *testing.T) {
	const most, least = 1<<63 - 1, -1 << 63
	l := []api.Move{
		{Id: least, Arg: most, Kind: 255, N: most}, {Id: -1, Kind: 9}, {Arg: least, N: most}, {Arg: -1}, {N: least}, {N: -1}, {}, {N: most},
		{Kind: api.MoveAsk, N: -5}, {Kind: api.MoveAsk}, {Kind: api.MoveAsk, N: 1}, {Kind: api.MovePut}, {Kind: api.MovePut, N: 63}, {Kind: api.MoveTell, N: -2}, {Kind: api.MoveTell, N: api.Esc}, {Kind: api.MoveTell}, {Kind: api.MoveTell, N: 1}, {Kind: 4}, {Kind: 255, N: least}, {Kind: 255, N: most},
		{Arg: 1}, {Arg: 2, N: -1}, {Arg: most}, {Id: 1, Arg: -7, Kind: 200}, {Id: 1}, {Id: 1, Kind: api.MoveAsk}, {Id: 1, Arg: 1, N: least}, {Id: 2, Arg: least}, {Id: most, N: -3}, {Id: most, Arg: most, Kind: 255, N: most},
	}
	for i, a := range l {
		for j, b := range l {
			if Less(a, b) != (i < j) {
				t.Errorf("Less of %v and %v: %v", a, b, Less(a, b))
			}
		}
	}
}
