package core

import (
	"math/rand/v2"
	"slices"
	"strings"
	"testing"

	"riposte/api"
	"riposte/arena"
	"riposte/parse"
)

// tree returns the tree of a text that has one.
func tree(t *testing.T, s string) api.Tree {
	t.Helper()
	u, at, e := parse.Parse(s)
	if e != api.OK {
		t.Fatalf("Parse of %q: %d, %v", s, at, e)
	}
	return u
}

// printed returns the text of a program.
func printed(u api.Tree) string {
	s, e := parse.Print(u)
	if e != api.OK {
		return "a program without a text"
	}
	return s
}

// readArena returns the arena with a text.
func readArena(t *testing.T, s string) api.Arena {
	t.Helper()
	a, e := arena.Read(s)
	if e != api.OK {
		t.Fatalf("Read of %q: %v", s, e)
	}
	return a
}

// arenaOf returns the arena with a text, or the error.
func arenaOf(s string) (api.Arena, api.Errno) { return arena.Read(s) }

// term returns the term with a text.
func term(t *testing.T, a api.Arena, s string) api.Term {
	t.Helper()
	u, e := Parse(a, s)
	if e != api.OK {
		t.Fatalf("Parse of %q in %s: %v", s, shown(a), e)
	}
	return u
}

// shown returns the text of an arena.
func shown(a api.Arena) string {
	s, e := arena.Show(a)
	if e != api.OK {
		return "no arena"
	}
	return s
}

// text returns the text of a term that is right.
func text(a api.Arena, u api.Term) string {
	s, e := Text(a, u)
	if e != api.OK {
		return "no term: " + strings.TrimSpace(written(u))
	}
	return s
}

// core returns the arena and the term of the export m of a text's program that has no error.
func core(t *testing.T, s string) (api.Arena, api.Term) {
	t.Helper()
	a, u, e := Of(tree(t, s), "m", false)
	if e != api.OK {
		t.Fatalf("Of %q: %v", s, e)
	}
	return a, u
}

// sameTerm reports whether two terms are the same; nil and empty lists are.
func sameTerm(x, y api.Term) bool {
	return x.Kind == y.Kind && x.N == y.N && x.M == y.M && x.Id == y.Id && slices.EqualFunc(x.Kids, y.Kids, sameTerm)
}

// sameArena reports whether two arenas are the same; nil and empty lists are.
func sameArena(a, b api.Arena) bool {
	return a.Root == b.Root && a.Jumps == b.Jumps && slices.EqualFunc(a.Ids, b.Ids, func(x, y api.Type) bool {
		return x.Result == y.Result && slices.Equal(x.Params, y.Params)
	})
}

// num returns an integer, kids a term of a kind with kids.
func num(n, m int) api.Term { return api.Term{Kind: api.TermNum, N: n, M: m} }

func kids(t api.Term, l ...api.Term) api.Term {
	t.Kids = l
	return t
}

// hangs returns a term of a number of nodes: a sequence, or the number 0 as one behind it.
func hangs(n int) api.Term {
	hang := api.Term{Kind: api.TermHang}
	switch n {
	case 1:
		return hang
	case 2:
		return kids(api.Term{Kind: api.TermAs, N: 1}, hang)
	}
	return kids(api.Term{Kind: api.TermSeq}, hang, hangs(n-2))
}

// source returns the same numbers in each run.
func source(n uint64) *rand.Rand { return rand.New(rand.NewPCG(n, 7)) }

// pick returns one of a list.
func pick[T any](r *rand.Rand, l ...T) T { return l[r.IntN(len(l))] }
