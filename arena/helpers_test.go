package arena

import (
	"math/rand/v2"
	"slices"
	"strings"
	"testing"

	"riposte/api"
)

// example is the text of the arena of the chapter's examples.
const example = "int 2; (int 3, cell 2) -> int 1; cell 2"

// of returns the arena with a text that is one.
func of(t *testing.T, s string) api.Arena {
	t.Helper()
	a, e := Read(s)
	if e != api.OK {
		t.Fatalf("Read of %q: %v", s, e)
	}
	return a
}

// said returns the move with a text that is one.
func said(t *testing.T, s string) api.Move {
	t.Helper()
	m, e := Parse(s)
	if e != api.OK {
		t.Fatalf("Parse of %q: %v", s, e)
	}
	return m
}

// texts returns the texts of moves with blanks between.
func texts(t *testing.T, l []api.Move) string {
	t.Helper()
	var out []string
	for _, m := range l {
		s, e := Text(m)
		if e != api.OK {
			t.Fatalf("Text of %v: %v", m, e)
		}
		out = append(out, s)
	}
	return strings.Join(out, " ")
}

// number and cell are base types; alone is a type without params, function one with some.
func number(n int) api.Base { return api.Base{N: n} }

func cell(n int) api.Base { return api.Base{Cell: true, N: n} }

func alone(b api.Base) api.Type { return api.Type{Result: b} }

func function(result api.Base, params ...api.Base) api.Type {
	return api.Type{Params: params, Result: result}
}

// alike reports whether two arenas are the same; nil and empty lists are.
func alike(a, b api.Arena) bool {
	same := func(x, y api.Type) bool { return x.Result == y.Result && slices.Equal(x.Params, y.Params) }
	return a.Root == b.Root && a.Jumps == b.Jumps && slices.EqualFunc(a.Ids, b.Ids, same)
}

// twin returns the same arena in other memory.
func twin(a api.Arena) api.Arena {
	var ids []api.Type
	for _, t := range a.Ids {
		ids = append(ids, function(t.Result, slices.Clone(t.Params)...))
	}
	a.Ids = ids
	return a
}

// source returns the same numbers in each run.
func source(n uint64) *rand.Rand { return rand.New(rand.NewPCG(n, 4)) }

// anyBase and anyArena return random base types and arenas that are right.
func anyBase(r *rand.Rand) api.Base {
	sizes := []int{1, 1, 2, 2, 3, 4, 10, 64}
	return api.Base{Cell: r.IntN(3) == 0, N: sizes[r.IntN(len(sizes))]}
}

func anyArena(r *rand.Rand) api.Arena {
	a := api.Arena{Root: anyBase(r), Jumps: r.IntN(2) == 0}
	for range r.IntN(api.MaxIds + 1) {
		t := alone(anyBase(r))
		for range max(0, r.IntN(api.MaxParams+6)-5) {
			t.Params = append(t.Params, anyBase(r))
			t.Result.Cell = false
		}
		a.Ids = append(a.Ids, t)
	}
	return a
}

// arenas yields some arenas at limits, and random ones.
func arenas(yield func(api.Arena) bool) {
	params := slices.Repeat([]api.Base{cell(64)}, api.MaxParams)
	for _, a := range []api.Arena{
		{Root: number(1)}, {Root: cell(1), Jumps: true}, {Root: cell(64)},
		{Root: number(64), Ids: slices.Repeat([]api.Type{function(number(64), params...)}, api.MaxIds), Jumps: true},
		{Root: number(2), Ids: slices.Repeat([]api.Type{alone(cell(64))}, api.MaxIds)},
	} {
		if !yield(a) {
			return
		}
	}
	r := source(1)
	for range 40 {
		if !yield(anyArena(r)) {
			return
		}
	}
}

// flawed are arenas with their errors.
func flawed() map[api.Errno][]api.Arena {
	long := function(number(2), make([]api.Base, api.MaxParams+1)...)
	many := make([]api.Type, api.MaxIds+1)
	one := number(1)
	ids := func(l ...api.Type) api.Arena { return api.Arena{Ids: l, Root: one} }
	return map[api.Errno][]api.Arena{
		api.ErrLimit: {
			{Ids: many}, {Ids: many, Root: one}, {Ids: make([]api.Type, 1<<16), Root: one, Jumps: true}, ids(slices.Repeat([]api.Type{alone(one)}, api.MaxIds+1)...),
			ids(long), {Ids: []api.Type{long}}, ids(alone(number(0)), alone(one), long), ids(function(one, slices.Repeat([]api.Base{one}, api.MaxParams+1)...)), ids(function(cell(0), make([]api.Base, 1<<16)...)),
		},
		api.ErrForm: {
			{}, {Jumps: true}, {Root: number(65)}, {Root: cell(65)}, {Root: cell(0)}, {Root: number(-1)}, {Root: number(1 << 62)}, {Root: number(-1 << 63)}, {Ids: []api.Type{alone(one)}},
			ids(make([]api.Type, api.MaxIds)...), ids(alone(number(65))), ids(alone(one), alone(cell(0))), ids(alone(number(-64))),
			ids(function(one, make([]api.Base, api.MaxParams)...)), ids(function(one, one, one, one, one, number(65))), ids(alone(one), function(one, one, cell(0))), ids(function(one, number(-1))), ids(function(number(65), one)),
			ids(function(cell(2), one)), ids(alone(cell(1)), function(cell(1), cell(1))),
		},
	}
}
