package play

import (
	"math/rand/v2"
	"slices"
	"strings"
	"testing"

	"riposte/api"
	"riposte/arena"
)

// The arenas and words of the chapter's examples; calls has two identifiers with params.
const (
	plain = "int 2; (int 3, cell 2) -> int 1; cell 2"
	jumps = plain + "; jumps"
	calls = "int 2; (int 2) -> int 2; (int 2, int 2) -> int 2; int 2"
	said  = "0? 1? 1.1? 2? 2!1 1.1!2 1.2=1 1.2!0 1!0"
)

// of returns the arena with a text that is one.
func of(t *testing.T, s string) api.Arena {
	t.Helper()
	a, e := arena.Read(s)
	if e != api.OK {
		t.Fatalf("Read of %q: %v", s, e)
	}
	return a
}

// word returns the word with a text that is one.
func word(t *testing.T, s string) api.Word {
	t.Helper()
	var w api.Word
	for _, part := range strings.Fields(s) {
		m, e := arena.Parse(part)
		if e != api.OK {
			t.Fatalf("Parse of %q: %v", part, e)
		}
		w = append(w, m)
	}
	return w
}

// texts returns the texts of moves with blanks between.
func texts(t *testing.T, w api.Word) string {
	t.Helper()
	var parts []string
	for _, m := range w {
		s, e := arena.Text(m)
		if e != api.OK {
			t.Fatalf("Text of %v: %v", m, e)
		}
		parts = append(parts, s)
	}
	return strings.Join(parts, " ")
}

// again returns a text some times, with blanks between.
func again(n int, s string) string { return strings.Join(slices.Repeat([]string{s}, n), " ") }

// sameStand reports whether two stands are the same; nil and empty lists are.
func sameStand(a, b api.Stand) bool {
	return a.Turn == b.Turn && slices.Equal(a.Open, b.Open) && a.Forced == b.Forced && a.Lost == b.Lost
}

// source returns the same numbers in each run.
func source(n uint64) *rand.Rand { return rand.New(rand.NewPCG(n, 5)) }

// anyBase and anyArena return random base types and arenas that are right.
func anyBase(r *rand.Rand) api.Base {
	return api.Base{Cell: r.IntN(3) == 0, N: 1 + r.IntN(3)}
}

func anyArena(r *rand.Rand) api.Arena {
	a := api.Arena{Root: anyBase(r), Jumps: r.IntN(2) == 0}
	for range r.IntN(4) {
		x := api.Type{Result: anyBase(r)}
		for range r.IntN(3) {
			x.Params = append(x.Params, anyBase(r))
			x.Result.Cell = false
		}
		a.Ids = append(a.Ids, x)
	}
	return a
}

// arenas yields those of the examples, the simplest ones, and random ones.
func arenas(yield func(api.Arena) bool) {
	for _, s := range []string{plain, jumps, calls, calls + "; jumps", "int 1", "cell 2", "cell 1; jumps", "int 2; jumps", "int 2; cell 3; jumps", "cell 2; (cell 2) -> int 1"} {
		if a, e := arena.Read(s); e != api.OK || !yield(a) {
			return
		}
	}
	r := source(1)
	for range 30 {
		if !yield(anyArena(r)) {
			return
		}
	}
}

// walk returns a random legal word with as many moves at most: of those that can come it takes one, seldom one that ends the word or loses it.
func walk(r *rand.Rand, a api.Arena, most int) api.Word {
	var w api.Word
	for len(w) < most {
		l := slices.DeleteFunc(moves(a), func(m api.Move) bool { return !(book{a, w}).can(m) })
		if len(l) == 0 {
			break
		}
		m := l[r.IntN(len(l))]
		for tries := 0; tries < 3 && isEnding(w, m); tries++ {
			m = l[r.IntN(len(l))]
		}
		w = append(w, m)
	}
	return w
}

// isEnding reports whether a move answers the term itself, or is a jump of the other one's own.
func isEnding(w api.Word, m api.Move) bool {
	if m.Kind != api.MoveTell {
		return false
	}
	return m.Id == 0 || m.Arg == 0 && m.N == api.Esc && w[len(w)-1].N != api.Esc
}

// moves returns all moves of an arena.
func moves(a api.Arena) []api.Move {
	l, _ := arena.Moves(a)
	return l
}

// walks yields arenas with random legal words in them.
func walks(yield func(api.Arena, api.Word) bool) {
	r := source(2)
	for a := range arenas {
		for range 20 {
			if !yield(a, walk(r, a, 1+r.IntN(40))) {
				return
			}
		}
	}
}

// starts yields the beginnings of a word, itself too.
func starts(w api.Word) func(func(api.Word) bool) {
	return func(yield func(api.Word) bool) {
		for n := range len(w) + 1 {
			if !yield(slices.Clone(w[:n])) {
				return
			}
		}
	}
}
