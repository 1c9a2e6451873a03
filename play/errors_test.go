package play

import (
	"slices"
	"testing"

	"riposte/api"
)

// result is what a function with an arena returned: whether all but the error are zero values, and the error.
type result struct {
	zero bool
	e    api.Errno
}

// all returns what all functions with an arena but Check returned, by their names.
func all(a api.Arena, w api.Word) map[string]result {
	stand, e1 := Stand(a, w)
	next, e2 := Next(a, w)
	partners, e3 := Partners(a, w)
	justifiers, e4 := Justifiers(a, w)
	view, e5 := View(a, w)
	sight, e6 := Sight(a, w)
	part, e7 := Part(a, w, []int{0, 1, 2})
	depth, e8 := Depth(a, w)
	closed, e9 := Close(a, w)
	cut, e10 := Cut(a, w)
	return map[string]result{
		"Stand": {sameStand(stand, api.Stand{}), e1}, "Next": {len(next) == 0, e2}, "Partners": {len(partners) == 0, e3}, "Justifiers": {len(justifiers) == 0, e4}, "View": {len(view) == 0, e5}, "Sight": {len(sight) == 0, e6},
		"Part": {len(part) == 0, e7}, "Depth": {depth == 0, e8}, "Close": {len(closed) == 0, e9}, "Cut": {len(cut) == 0, e10},
	}
}

// long returns words of arena plain with as many moves: one that is legal, with two open questions at most, and one whose first move cannot come.
func long(t *testing.T, n int) (legal, odd api.Word) {
	t.Helper()
	legal = append(word(t, "0?"), word(t, again(n/2, "2? 2!1"))...)[:n]
	odd = slices.Clone(legal)
	odd[0] = api.Move{}
	return legal, odd
}

// P5.1 to P5.8, R1, R2, R8: each function has first the errors of the arena, whatever the word is, then ErrLimit, then, but Cut, ErrOdd, with zero values.
func TestErrorsAndRanks(t *testing.T) {
	right, one := of(t, plain), api.Base{N: 1}
	legal, odd := long(t, api.MaxWord)
	longer, oddLonger := long(t, api.MaxWord+1)
	for i, x := range []struct {
		a  api.Arena
		w  api.Word
		at int
		e  api.Errno
	}{
		{api.Arena{}, nil, 0, api.ErrForm}, {api.Arena{}, legal, 0, api.ErrForm}, {api.Arena{}, odd, 0, api.ErrForm}, {api.Arena{}, oddLonger, 0, api.ErrForm}, {api.Arena{Root: api.Base{N: 65}}, longer, 0, api.ErrForm}, {api.Arena{Root: one, Ids: []api.Type{{Params: []api.Base{one}, Result: api.Base{Cell: true, N: 1}}}}, nil, 0, api.ErrForm},
		{api.Arena{Ids: make([]api.Type, api.MaxIds+1)}, nil, 0, api.ErrLimit}, {api.Arena{Root: one, Ids: []api.Type{{Params: make([]api.Base, api.MaxParams+1)}}}, odd, 0, api.ErrLimit},
		{right, longer, 0, api.ErrLimit}, {right, oddLonger, 0, api.ErrLimit}, {right, make(api.Word, 1<<20), 0, api.ErrLimit},
		{right, odd, 0, api.ErrOdd}, {right, append(word(t, "0? 0!0"), odd[2:]...), 2, api.ErrOdd}, {right, append(slices.Clone(legal[:api.MaxWord-1]), api.Move{Kind: 7}), api.MaxWord - 1, api.ErrOdd}, {right, word(t, "0? 1? 2?"), 2, api.ErrOdd}, {right, append(word(t, "0? "+again(199, "1? 1.1?")), api.Move{}), 399, api.ErrOdd},
	} {
		if at, e := Check(x.a, x.w); at != x.at || e != x.e {
			t.Errorf("%d: Check: %d, %v, not %d, %v", i, at, e, x.at, x.e)
		}
		for name, r := range all(x.a, x.w) {
			if name == "Cut" && x.e == api.ErrOdd {
				cut, e := Cut(x.a, x.w)
				if !slices.Equal(cut, x.w[:x.at]) || e != api.OK {
					t.Errorf("%d: Cut: %v, %v", i, cut, e)
				}
			} else if !r.zero || r.e != x.e {
				t.Errorf("%d: %s: %v, not %v; zero values: %v", i, name, r.e, x.e, r.zero)
			}
		}
	}
}

// P5.3, P5.8, R7: words of MaxWord moves are no error.
func TestLongestWords(t *testing.T) {
	a := of(t, plain)
	whole, _ := long(t, api.MaxWord-1)
	whole = append(whole, api.Move{Kind: api.MoveTell})
	for name, r := range all(a, whole) {
		if want := map[bool]api.Errno{true: api.ErrState, false: api.OK}[name == "View"]; r.e != want {
			t.Errorf("%s of a complete word: %v", name, r.e)
		}
	}
	if c, e := Close(a, whole); !slices.Equal(c, whole) || e != api.OK {
		t.Errorf("Close of a complete word: %v, %v", c, e)
	}
	open, _ := long(t, api.MaxWord)
	if at, e := Check(a, open); at != 0 || e != api.OK {
		t.Errorf("Check: %d, %v", at, e)
	}
	if s, e := Stand(a, open); !sameStand(s, api.Stand{Turn: api.TurnOther, Open: []int{0, api.MaxWord - 1}}) || e != api.OK {
		t.Errorf("Stand: %v, %v", s, e)
	}
	if l, e := Next(a, open); texts(t, l) != "2!0 2!1" || e != api.OK {
		t.Errorf("Next: %v, %v", l, e)
	}
	if s, e := Sight(a, open); !slices.Equal(s, []int{0, api.MaxWord - 1}) || e != api.OK {
		t.Errorf("Sight: %v, %v", s, e)
	}
	if v, e := View(a, open[:api.MaxWord-1]); len(v) != api.MaxWord-1 || e != api.OK {
		t.Errorf("View: %v, %v", v, e)
	}
	if c, e := Cut(a, open); !slices.Equal(c, open) || e != api.OK {
		t.Errorf("Cut: %v, %v", c, e)
	}
	if c, e := Close(a, open[:api.MaxWord-1]); !slices.Equal(c, whole) || e != api.OK {
		t.Errorf("Close: %v, %v", c, e)
	}
	if c, e := Close(a, open); len(c) > 0 || e != api.ErrLimit {
		t.Errorf("Close of a word that is too long to close: %v, %v", c, e)
	}
	deep := word(t, "0? "+again(200, "1? 1.1?"))[:api.MaxWord]
	if n, e := Depth(a, deep); n != api.MaxWord || e != api.OK {
		t.Errorf("Depth: %d, %v", n, e)
	}
	if c, e := Close(a, deep[:api.MaxWord/2]); len(c) != api.MaxWord || e != api.OK {
		t.Errorf("Close of a word of half as many moves: %d moves, %v", len(c), e)
	}
	if c, e := Close(a, deep[:api.MaxWord/2+1]); len(c) > 0 || e != api.ErrLimit {
		t.Errorf("Close of a word of one move more: %v, %v", c, e)
	}
}

// R4: what is returned shares no memory with what was handed over, and spare room stays as it is.
func TestOwnMemory(t *testing.T) {
	a, whole := of(t, plain), word(t, said+" 0!1")
	for n := range len(whole) {
		room := slices.Clone(whole)
		w := room[:n]
		for _, call := range []func() (api.Word, api.Errno){
			func() (api.Word, api.Errno) { return Close(a, w) },
			func() (api.Word, api.Errno) { return Cut(a, w) },
			func() (api.Word, api.Errno) { return Cut(a, append(slices.Clone(w), api.Move{})) },
			func() (api.Word, api.Errno) { return Part(a, w, []int{0, 1, 2}) },
			func() (api.Word, api.Errno) { l, e := Next(a, w); return l, e },
		} {
			l, e := call()
			before := slices.Clone(l)
			clear(l[:cap(l)])
			if again, f := call(); e != api.OK || f != api.OK || !slices.Equal(again, before) {
				t.Errorf("%d moves: %v, %v, then %v, %v", n, before, e, again, f)
			}
		}
		for _, call := range []func() ([]int, api.Errno){
			func() ([]int, api.Errno) { return Partners(a, w) },
			func() ([]int, api.Errno) { return Justifiers(a, w) },
			func() ([]int, api.Errno) { s, e := Stand(a, w); return s.Open, e },
		} {
			l, e := call()
			before := slices.Clone(l)
			clear(l)
			if again, f := call(); e != api.OK || f != api.OK || !slices.Equal(again, before) {
				t.Errorf("%d moves: %v, %v, then %v, %v", n, before, e, again, f)
			}
		}
		all(a, w)
		if !slices.Equal(room, whole) {
			t.Errorf("%d moves: %v became %v", n, whole, room)
		}
	}
	ids := []int{2, 0, 2}
	Part(a, whole, ids)
	if s := texts(t, whole); s != said+" 0!1" || !slices.Equal(ids, []int{2, 0, 2}) {
		t.Errorf("%s and %v", s, ids)
	}
}

// R3: nil and empty lists are the same.
func TestNilAndEmpty(t *testing.T) {
	none := api.Arena{Root: api.Base{N: 2}}
	empty := api.Arena{Ids: []api.Type{}, Root: api.Base{N: 2}}
	for _, a := range []api.Arena{none, empty} {
		for _, w := range []api.Word{nil, {}} {
			s, e := Stand(a, w)
			l, f := Next(a, w)
			c, g := Close(a, w)
			if s.Turn != api.TurnOther || len(s.Open) > 0 || e != api.OK || texts(t, l) != "0?" || f != api.OK || texts(t, c) != "0? 0!0" || g != api.OK {
				t.Errorf("%v, %v, %v, %v, %v, %v", s, e, l, f, c, g)
			}
			for name, r := range all(a, w) {
				if want := name == "View" || name == "Sight"; (r.e == api.ErrState) != want || r.e != api.OK && !want {
					t.Errorf("%s of the empty word: %v", name, r.e)
				}
			}
			if s, e := Text(w); s != "" || e != api.OK {
				t.Errorf("Text: %q, %v", s, e)
			}
		}
	}
	params := api.Arena{Ids: []api.Type{{Params: []api.Base{}, Result: api.Base{Cell: true, N: 1}}}, Root: api.Base{N: 1}}
	if l, e := Next(params, word(t, "0?")); texts(t, l) != "0!0 1? 1=0" || e != api.OK {
		t.Errorf("Next with empty params: %v, %v", l, e)
	}
}
