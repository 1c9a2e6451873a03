package play

import (
	"slices"
	"testing"

	"riposte/api"
)

// P5.1, P5.2, P5.8: which move is the first that cannot come, by each rule of the chapter; the words before it are legal, and Cut ends there.
func TestCheck(t *testing.T) {
	for _, x := range []struct {
		a, w string
		at   int
		e    api.Errno
	}{
		// 1: the beginning.
		{plain, "", 0, api.OK}, {plain, "0?", 0, api.OK}, {plain, "0!0", 0, api.ErrOdd}, {plain, "0!*", 0, api.ErrOdd}, {plain, "0=0", 0, api.ErrOdd}, {plain, "1?", 0, api.ErrOdd}, {plain, "1!0", 0, api.ErrOdd}, {plain, "1.1?", 0, api.ErrOdd}, {plain, "2=0", 0, api.ErrOdd},
		{"cell 3", "0?", 0, api.OK}, {"cell 3", "0=2", 0, api.OK}, {"cell 3", "0=3", 0, api.ErrOdd}, {"cell 3", "0!0", 0, api.ErrOdd},
		// 2: the end.
		{plain, "0? 0!0", 0, api.OK}, {plain, "0? 0!1", 0, api.OK}, {plain, "0? 0!2", 1, api.ErrOdd}, {plain, "0? 0!0 0?", 2, api.ErrOdd}, {plain, "0? 0!0 0!0", 2, api.ErrOdd}, {plain, "0? 0!0 1?", 2, api.ErrOdd}, {plain, "0? 0!0 2=0 2!0", 2, api.ErrOdd},
		{"cell 3", "0=2 0!0", 0, api.OK}, {"cell 3", "0=2 0!1", 1, api.ErrOdd}, {"cell 3", "0=2 0!2", 1, api.ErrOdd}, {"cell 3", "0? 0!2", 0, api.OK}, {"cell 3", "0=2 0!0 0?", 2, api.ErrOdd}, {"cell 3", "0=2 0=2", 1, api.ErrOdd},
		// 3: the program's turn.
		{plain, "0? 0?", 1, api.ErrOdd}, {plain, "0? 1.1?", 1, api.ErrOdd}, {plain, "0? 3?", 1, api.ErrOdd}, {plain, "0? 2!0", 1, api.ErrOdd}, {plain, "0? 2=2", 1, api.ErrOdd}, {plain, "0? 2=1", 0, api.OK}, {plain, "0? 0!*", 1, api.ErrOdd}, {jumps, "0? 0!*", 1, api.ErrOdd}, {"int 2; jumps", "0? 0!*", 1, api.ErrOdd},
		{plain, "0? 1? 1.1? 0?", 3, api.ErrOdd}, {plain, "0? 1? 1.1? 0!0", 3, api.ErrOdd}, {plain, "0? 1? 1.1? 1!0", 3, api.ErrOdd}, {plain, "0? 1? 1.1? 1!*", 3, api.ErrOdd}, {plain, "0? 1? 1.1? 1.1?", 3, api.ErrOdd}, {plain, "0? 1? 1.1? 1.2?", 3, api.ErrOdd}, {plain, "0? 1? 1.1? 1.2!0", 3, api.ErrOdd}, {plain, "0? 1? 1.1? 1.1!3", 3, api.ErrOdd},
		{plain, "0? 1? 1.1? 1.1!2", 0, api.OK}, {plain, "0? 1? 1.1? 1?", 0, api.OK}, {plain, "0? 1? 1.1? 2=0", 0, api.OK}, {plain, "0? 1? 1.1? 1.1!*", 0, api.OK}, {plain, "0? 1? 1.2? 1.2!1", 0, api.OK}, {plain, "0? 1? 1.2=1 1.2!0", 0, api.OK}, {plain, "0? 1? 1.2=1 1.2!1", 3, api.ErrOdd}, {plain, "0? 1? 1.2=1 1.2!*", 0, api.OK},
		{plain, said, 0, api.OK}, {plain, said + " 0!0", 0, api.OK}, {plain, said + " 1.1?", 9, api.ErrOdd}, {plain, said + " 1!0", 9, api.ErrOdd},
		// 4: the other one's turn.
		{plain, "0? 1? 1?", 2, api.ErrOdd}, {plain, "0? 1? 2?", 2, api.ErrOdd}, {plain, "0? 1? 0?", 2, api.ErrOdd}, {plain, "0? 1? 0!0", 2, api.ErrOdd}, {plain, "0? 1? 2!0", 2, api.ErrOdd}, {plain, "0? 1? 1.1!0", 2, api.ErrOdd}, {plain, "0? 1? 1!1", 2, api.ErrOdd}, {plain, "0? 1? 1.3?", 2, api.ErrOdd}, {plain, "0? 1? 1.1=0", 2, api.ErrOdd}, {plain, "0? 1? 1.2=2", 2, api.ErrOdd}, {plain, "0? 2? 1.1?", 2, api.ErrOdd}, {plain, "0? 2? 2.1?", 2, api.ErrOdd}, {plain, "0? 2? 2!2", 2, api.ErrOdd},
		{plain, "0? 1? 1!0", 0, api.OK}, {plain, "0? 1? 1.1?", 0, api.OK}, {plain, "0? 1? 1.2?", 0, api.OK}, {plain, "0? 1? 1.2=1", 0, api.OK}, {plain, "0? 2? 2!1", 0, api.OK}, {plain, "0? 2=1 2!0", 0, api.OK}, {plain, "0? 2=1 2!1", 2, api.ErrOdd},
		{plain, "0? 1? 1!*", 2, api.ErrOdd}, {jumps, "0? 1? 1!*", 0, api.OK}, {plain, "0? 2? 2!*", 2, api.ErrOdd}, {jumps, "0? 2? 2!*", 0, api.OK}, {jumps, "0? 2=1 2!*", 0, api.OK}, {plain, "0? 2=1 2!*", 2, api.ErrOdd},
		{calls, "0? 1? 2.1?", 2, api.ErrOdd}, {calls, "0? 1? 1.2?", 2, api.ErrOdd}, {calls, "0? 2? 2.2?", 0, api.OK}, {calls, "0? 1? 1.1? 2? 1.1?", 4, api.ErrOdd}, {calls, "0? 1? 1.1? 2? 1!0", 4, api.ErrOdd}, {calls, "0? 1? 1.1? 2? 1.1!0", 4, api.ErrOdd}, {calls, "0? 1? 1.1? 2? 2.1? 2.1!0 2!0 1.1!0 1!0 0!0", 0, api.OK},
		// 5: forced.
		{plain, "0? 1? 1.1? 1.1!* 1!*", 0, api.OK}, {jumps, "0? 1? 1.1? 1.1!* 1!*", 0, api.OK}, {plain, "0? 1? 1.1? 1.1!* 1!0", 4, api.ErrOdd}, {jumps, "0? 1? 1.1? 1.1!* 1!0", 4, api.ErrOdd}, {plain, "0? 1? 1.1? 1.1!* 1.1?", 4, api.ErrOdd}, {plain, "0? 1? 1.1? 1.1!* 1.2?", 4, api.ErrOdd}, {plain, "0? 1? 1.1? 1.1!* 2?", 4, api.ErrOdd}, {plain, "0? 1? 1.1? 1.1!* 0!0", 4, api.ErrOdd}, {calls, "0? 1? 1.1? 1.1!* 2!*", 4, api.ErrOdd}, {plain, "0? 1? 1.2=0 1.2!* 1!*", 0, api.OK},
		{plain, "0? 1? 1.1? 1.1!* 1!* 0!*", 5, api.ErrOdd}, {jumps, "0? 1? 1.1? 1.1!* 1!* 0!*", 5, api.ErrOdd}, {plain, "0? 1? 1.1? 1.1!* 1!* 1!*", 5, api.ErrOdd}, {plain, "0? 1? 1.1? 1.1!* 1!* 0!1", 0, api.OK}, {jumps, "0? 1? 1.1? 1.1!* 1!* 2? 2!0 1? 1!0 0!0", 0, api.OK},
		{plain, "0? 1? 1.1? 1? 1.1? 1.1!* 1!* 1.1!* 1!* 0!0", 0, api.OK}, {plain, "0? 1? 1.1? 1? 1.1? 1.1!* 1!* 1.1!0 1!0 0!0", 0, api.OK}, {plain, "0? 1? 1.1? 1? 1.1? 1.1!* 1!* 1!*", 7, api.ErrOdd},
		// 6: lost.
		{jumps, "0? 1? 1!* 0!*", 0, api.OK}, {jumps, "0? 1? 1!* 0!1", 3, api.ErrOdd}, {jumps, "0? 1? 1!* 1?", 3, api.ErrOdd}, {jumps, "0? 1? 1!* 2?", 3, api.ErrOdd}, {jumps, "0? 2? 2!* 0!* 0?", 4, api.ErrOdd}, {jumps, "0? 2? 2!* 0!* 0!*", 4, api.ErrOdd},
		{jumps, "0? 1? 1.1? 2? 2!* 1.1!* 1!* 0!*", 0, api.OK}, {jumps, "0? 1? 1.1? 2? 2!* 1.1!0", 5, api.ErrOdd}, {jumps, "0? 1? 1.1? 2? 2!* 2?", 5, api.ErrOdd}, {jumps, "0? 1? 1.1? 2? 2!* 1.1!* 1!0", 6, api.ErrOdd}, {jumps, "0? 1? 1.1? 2? 2!* 1.1!* 1.2?", 6, api.ErrOdd}, {jumps, "0? 1? 1.1? 2? 2!* 1.1!* 1!* 0!0", 7, api.ErrOdd}, {jumps, "0? 1? 1.1? 2? 2!* 1.1!* 1!* 2?", 7, api.ErrOdd},
		{jumps, "0? 1? 1.1? 1.1!* 1!* 2? 2!* 0!0", 7, api.ErrOdd}, {jumps, "0? 1? 1.1? 1.1!* 1!* 2? 2!* 0!*", 0, api.OK}, {"cell 2; int 2; jumps", "0=1 1? 1!* 0!*", 0, api.OK}, {"cell 2; int 2; jumps", "0=1 1? 1!* 0!0", 3, api.ErrOdd},
	} {
		a, w := of(t, x.a), word(t, x.w)
		if at, e := Check(a, w); at != x.at || e != x.e {
			t.Errorf("Check of %q in %q: %d, %v, not %d, %v", x.w, x.a, at, e, x.at, x.e)
		}
		legal := w
		if x.e != api.OK {
			legal = w[:x.at]
		}
		if at, e := Check(a, legal); at != 0 || e != api.OK {
			t.Errorf("Check of the beginning %v of %q in %q: %d, %v", legal, x.w, x.a, at, e)
		}
		if cut, e := Cut(a, w); !slices.Equal(cut, legal) || e != api.OK {
			t.Errorf("Cut of %q in %q: %v, %v", x.w, x.a, cut, e)
		}
	}
}

// P5.1, R8: what is no move at all cannot come, wherever it stands.
func TestCheckStrangeMoves(t *testing.T) {
	const most = 1<<63 - 1
	for _, s := range []string{plain, jumps} {
		a := of(t, s)
		for _, before := range []string{"", "0?", "0? 1?", "0? 1? 1.1?", "0? 1? 1.1? 1.1!*", "0? 0!0"} {
			for _, m := range []api.Move{
				{}, {Kind: 4}, {Kind: 255}, {Id: 1}, {Id: 1, Kind: 4}, {Id: -1, Kind: api.MoveAsk}, {Arg: 1, Kind: api.MoveAsk}, {Arg: -1, Kind: api.MoveAsk}, {Id: 1, Arg: -1, Kind: api.MoveAsk}, {Id: 2, Arg: 1, Kind: api.MoveAsk}, {Id: 3, Kind: api.MoveAsk}, {Id: most, Kind: api.MoveAsk}, {Id: -most - 1, Arg: most, Kind: api.MoveAsk},
				{Kind: api.MoveAsk, N: 1}, {Kind: api.MoveAsk, N: -1}, {Id: 1, Kind: api.MoveAsk, N: -1}, {Id: 1, Arg: 1, Kind: api.MoveAsk, N: 1}, {Id: 1, Arg: 2, Kind: api.MovePut, N: -1}, {Id: 2, Kind: api.MovePut, N: 2}, {Id: 2, Kind: api.MovePut, N: -1}, {Id: 1, Kind: api.MovePut}, {Id: 1, Arg: 1, Kind: api.MovePut},
				{Kind: api.MoveTell, N: -2}, {Kind: api.MoveTell, N: most}, {Id: 1, Kind: api.MoveTell, N: -2}, {Id: 1, Arg: 1, Kind: api.MoveTell, N: -2}, {Id: 1, Arg: 1, Kind: api.MoveTell, N: -most - 1},
			} {
				w := append(word(t, before), m, m)
				if at, e := Check(a, w); at != len(w)-2 || e != api.ErrOdd {
					t.Errorf("Check of %q and %v in %q: %d, %v", before, m, s, at, e)
				}
			}
		}
	}
}

// P5.2, P5.3: where words stand, and what can come.
func TestStandAndNext(t *testing.T) {
	const other, program, over = api.TurnOther, api.TurnProgram, api.TurnOver
	for _, x := range []struct {
		a, w         string
		turn         uint8
		open         []int
		forced, lost bool
		next         string
	}{
		{plain, "", other, nil, false, false, "0?"},
		{"cell 3", "", other, nil, false, false, "0? 0=0 0=1 0=2"},
		{"cell 3; jumps", "0=2", program, []int{0}, false, false, "0!0"},
		{"cell 3", "0?", program, []int{0}, false, false, "0!0 0!1 0!2"},
		{plain, "0?", program, []int{0}, false, false, "0!0 0!1 1? 2? 2=0 2=1"},
		{jumps, "0?", program, []int{0}, false, false, "0!0 0!1 1? 2? 2=0 2=1"},
		{plain, "0? 1?", other, []int{0, 1}, false, false, "1!0 1.1? 1.2? 1.2=0 1.2=1"},
		{jumps, "0? 1?", other, []int{0, 1}, false, false, "1!* 1!0 1.1? 1.2? 1.2=0 1.2=1"},
		{plain, "0? 2?", other, []int{0, 1}, false, false, "2!0 2!1"},
		{jumps, "0? 2=1", other, []int{0, 1}, false, false, "2!* 2!0"},
		{plain, "0? 1? 1.1?", program, []int{0, 1, 2}, false, false, "1? 1.1!* 1.1!0 1.1!1 1.1!2 2? 2=0 2=1"},
		{plain, "0? 1? 1.2=1", program, []int{0, 1, 2}, false, false, "1? 1.2!* 1.2!0 2? 2=0 2=1"},
		{plain, "0? 1? 1.1? 2? 2!1", program, []int{0, 1, 2}, false, false, "1? 1.1!* 1.1!0 1.1!1 1.1!2 2? 2=0 2=1"},
		{plain, "0? 1? 1.1? 1.1!*", other, []int{0, 1}, true, false, "1!*"},
		{jumps, "0? 1? 1.1? 1.1!*", other, []int{0, 1}, true, false, "1!*"},
		{jumps, "0? 1? 1.1? 1.1!* 1!*", program, []int{0}, false, false, "0!0 0!1 1? 2? 2=0 2=1"},
		{plain, "0? 1? 1.1? 1.1!0", other, []int{0, 1}, false, false, "1!0 1.1? 1.2? 1.2=0 1.2=1"},
		{plain, said, program, []int{0}, false, false, "0!0 0!1 1? 2? 2=0 2=1"},
		{plain, said + " 0!1", over, nil, false, false, ""},
		{jumps, "0? 2? 2!*", program, []int{0}, false, true, "0!*"},
		{jumps, "0? 2? 2!* 0!*", over, nil, false, true, ""},
		{jumps, "0? 1? 1.1? 2? 2!*", program, []int{0, 1, 2}, false, true, "1.1!*"},
		{jumps, "0? 1? 1.1? 2? 2!* 1.1!*", other, []int{0, 1}, true, true, "1!*"},
		{jumps, "0? 1? 1.1? 2? 2!* 1.1!* 1!*", program, []int{0}, false, true, "0!*"},
		{calls, "0? 1? 1.1? 2?", other, []int{0, 1, 2, 3}, false, false, "2!0 2!1 2.1? 2.2?"},
		{"int 1; (int 1) -> int 1; int 1", "0? 1? 1.1?", program, []int{0, 1, 2}, false, false, "1? 1.1!* 1.1!0 2?"},
	} {
		a, w := of(t, x.a), word(t, x.w)
		want := api.Stand{Turn: x.turn, Open: x.open, Forced: x.forced, Lost: x.lost}
		if s, e := Stand(a, w); !sameStand(s, want) || e != api.OK {
			t.Errorf("Stand of %q in %q: %v, %v, not %v", x.w, x.a, s, e, want)
		}
		if l, e := Next(a, w); texts(t, l) != x.next || e != api.OK {
			t.Errorf("Next of %q in %q: %s, %v, not %s", x.w, x.a, texts(t, l), e, x.next)
		}
	}
}

// P5.4, P5.7: partners, justifiers, and depths.
func TestPartnersJustifiersDepth(t *testing.T) {
	for _, x := range []struct {
		a, w                 string
		partners, justifiers []int
		depth                int
	}{
		{plain, "", nil, nil, 0},
		{plain, "0?", []int{-1}, []int{-1}, 1},
		{plain, "0? 0!0", []int{1, 0}, []int{-1, 0}, 1},
		{plain, said, []int{-1, 8, 5, 4, 3, 2, 7, 6, 1}, []int{-1, 0, 1, 0, 3, 2, 1, 6, 1}, 4},
		{plain, "0? 1? 1.1? 2?", []int{-1, -1, -1, -1}, []int{-1, 0, 1, 0}, 4},
		{plain, "0? 1? 1!0 1? 1!0 0!1", []int{5, 2, 1, 4, 3, 0}, []int{-1, 0, 1, 0, 3, 0}, 2},
		{plain, "0? 1? 1.1? 1? 1.1? 1.1!* 1!* 1.1!0 1.2?", []int{-1, -1, 7, 6, 5, 4, 3, 2, -1}, []int{-1, 0, 1, 0, 3, 4, 3, 2, 1}, 5},
		{jumps, "0? 1? 1.1? 2? 2!* 1.1!* 1!* 0!*", []int{7, 6, 5, 4, 3, 2, 1, 0}, []int{-1, 0, 1, 0, 3, 2, 1, 0}, 4},
		{"cell 2; cell 2", "0=1 1=1 1!0 0!0", []int{3, 2, 1, 0}, []int{-1, 0, 1, 0}, 2},
	} {
		a, w := of(t, x.a), word(t, x.w)
		if l, e := Partners(a, w); !slices.Equal(l, x.partners) || e != api.OK {
			t.Errorf("Partners of %q: %v, %v, not %v", x.w, l, e, x.partners)
		}
		if l, e := Justifiers(a, w); !slices.Equal(l, x.justifiers) || e != api.OK {
			t.Errorf("Justifiers of %q: %v, %v, not %v", x.w, l, e, x.justifiers)
		}
		if n, e := Depth(a, w); n != x.depth || e != api.OK {
			t.Errorf("Depth of %q: %d, %v, not %d", x.w, n, e, x.depth)
		}
	}
}

// P5.5: views of both sides, of which each word has one alone.
func TestViewAndSight(t *testing.T) {
	const twice = "0? 1? 1.1? 1? 1.2? 1.2!1 1!0 1.1!0 1.1? 1.1!1 1!0 0!1"
	for _, x := range []struct {
		a, w        string
		view, sight []int
	}{
		{plain, "", nil, nil}, {plain, "0?", []int{0}, nil}, {"cell 2", "0=1", []int{0}, nil}, {plain, "0? 0!0", nil, []int{0, 1}}, {plain, "0? 2=1", nil, []int{0, 1}}, {plain, "0? 2=1 2!0", []int{0, 1, 2}, nil},
		{plain, "0? 1? 1.1?", []int{0, 1, 2}, nil}, {plain, "0? 1? 1.1? 2?", nil, []int{0, 3}}, {plain, "0? 1? 1.1? 2? 2!1", []int{0, 1, 2, 3, 4}, nil}, {plain, "0? 1? 1.1? 2? 2!1 1.1!2", nil, []int{0, 1, 2, 5}}, {plain, "0? 1? 1.1? 2? 2!1 1.1!2 1.2=1", []int{0, 1, 6}, nil}, {plain, "0? 1? 1.1? 2? 2!1 1.1!2 1.2=1 1.2!0", nil, []int{0, 1, 2, 5, 6, 7}},
		{plain, said, []int{0, 1, 8}, nil}, {plain, said + " 2?", nil, []int{0, 9}}, {plain, said + " 2? 2!0", []int{0, 1, 8, 9, 10}, nil}, {plain, said + " 0!1", nil, []int{0, 9}},
		{plain, twice, nil, []int{0, 11}}, {plain, "0? 1? 1.1? 1? 1.2? 1.2!1 1!0", []int{0, 1, 2, 3, 6}, nil}, {plain, "0? 1? 1.1? 1? 1.2? 1.2!1", nil, []int{0, 3, 4, 5}}, {plain, "0? 1? 1.1? 1? 1.2? 1.2!1 1!0 1.1!0", nil, []int{0, 1, 2, 7}},
		{plain, "0? 1? 1.1? 1.1!*", nil, []int{0, 1, 2, 3}}, {plain, "0? 1? 1.1? 1.1!* 1!*", []int{0, 1, 2, 3, 4}, nil}, {plain, "0? 1? 1.1? 1.1!* 1!* 0!0", nil, []int{0, 5}}, {plain, "0? 1? 1.1? 1.1!0 1.1? 1.1!* 1!*", []int{0, 1, 4, 5, 6}, nil}, {plain, "0? 1? 1.1? 1.1!0 1.1? 1.1!*", nil, []int{0, 1, 2, 3, 4, 5}},
		{plain, "0? 2? 2!1 1? 1.1? 2? 2!0 1.1!* 1!* 2? 2!1", []int{0, 1, 2, 3, 4, 5, 6, 7, 8, 9, 10}, nil}, {plain, "0? 1? 1.1? 1? 1.1? 1.1!* 1!* 1.1!0 1!0", []int{0, 1, 8}, nil},
		{jumps, "0? 1? 1.1? 1.1!0 1!*", []int{0, 1, 4}, nil}, {jumps, "0? 2? 2!*", []int{0, 1, 2}, nil}, {jumps, "0? 2? 2!* 0!*", nil, []int{0, 3}}, {jumps, "0? 1? 1.1? 2? 2!* 1.1!*", nil, []int{0, 1, 2, 5}}, {jumps, "0? 1? 1.1? 2? 2!* 1.1!* 1!*", []int{0, 1, 2, 3, 4, 5, 6}, nil},
	} {
		a, w := of(t, x.a), word(t, x.w)
		v, e := View(a, w)
		if !slices.Equal(v, x.view) || (e == api.ErrState) != (x.view == nil) || e != api.OK && e != api.ErrState {
			t.Errorf("View of %q: %v, %v, not %v", x.w, v, e, x.view)
		}
		s, e := Sight(a, w)
		if !slices.Equal(s, x.sight) || (e == api.ErrState) != (x.sight == nil) || e != api.OK && e != api.ErrState {
			t.Errorf("Sight of %q: %v, %v, not %v", x.w, s, e, x.sight)
		}
	}
}

// P5.6: parts of some identifiers, in whatever order and however often they are named.
func TestPart(t *testing.T) {
	for _, x := range []struct {
		w    string
		ids  []int
		part string
	}{
		{said, nil, ""}, {said, []int{}, ""}, {said, []int{0}, "0?"}, {said, []int{1}, "1? 1.1? 1.1!2 1.2=1 1.2!0 1!0"}, {said, []int{2}, "2? 2!1"}, {said, []int{2, 0, 9, 2, -1}, "0? 2? 2!1"}, {said, []int{2, 1, 0}, said}, {said, []int{3, -1, 1 << 62, -1 << 63}, ""}, {"", []int{0, 1, 2}, ""},
		{said + " 0!1", []int{0}, "0? 0!1"},
	} {
		if p, e := Part(of(t, plain), word(t, x.w), x.ids); texts(t, p) != x.part || e != api.OK {
			t.Errorf("Part of %q and %v: %s, %v, not %s", x.w, x.ids, texts(t, p), e, x.part)
		}
	}
}

// P5.8: closes.
func TestClose(t *testing.T) {
	for _, x := range []struct{ a, w, more string }{
		{plain, "", "0? 0!0"}, {"cell 2", "", "0? 0!0"}, {"cell 2; jumps", "0=1", "0!0"}, {plain, "0? 0!1", ""}, {plain, "0?", "0!0"}, {plain, "0? 1? 1.1? 2?", "2!0 1.1!0 1!0 0!0"}, {jumps, "0? 1? 1.1? 2?", "2!0 1.1!0 1!0 0!0"}, {plain, "0? 1? 1.2=1", "1.2!0 1!0 0!0"}, {plain, said, "0!0"},
		{plain, "0? 1? 1.1? 1.1!*", "1!* 0!0"}, {plain, "0? 1? 1.1? 1? 1.1? 1.1!*", "1!* 1.1!0 1!0 0!0"}, {jumps, "0? 1? 1.1? 1.1!* 1!*", "0!0"},
		{jumps, "0? 1? 1.2=0 2? 2!*", "1.2!* 1!* 0!*"}, {jumps, "0? 1? 1.2=0 2? 2!* 1.2!*", "1!* 0!*"}, {jumps, "0? 2? 2!*", "0!*"}, {jumps, "0? 2? 2!* 0!*", ""},
	} {
		want := append(word(t, x.w), word(t, x.more)...)
		if c, e := Close(of(t, x.a), word(t, x.w)); !slices.Equal(c, want) || e != api.OK {
			t.Errorf("Close of %q in %q: %s, %v", x.w, x.a, texts(t, c), e)
		}
	}
}
