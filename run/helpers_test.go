package run

import (
	"math/rand/v2"
	"slices"
	"strconv"
	"strings"
	"testing"

	"riposte/api"
	"riposte/arena"
	"riposte/internal/samples"
	"riposte/parse"
	"riposte/play"
)

// tree returns the tree of a text that has one.
func tree(t *testing.T, s string) api.Tree {
	t.Helper()
	u, at, e := parse.Parse(s)
	if e != api.OK {
		t.Fatalf("Parse of %q: %d, %v", s, at, e)
	}
	return u
}

// word returns the word with a text.
func word(t *testing.T, s string) api.Word {
	t.Helper()
	w, e := play.Parse(s)
	if e != api.OK {
		t.Fatalf("Parse of %q: %v", s, e)
	}
	return w
}

// said returns the session of the export m of a text's program, with a word, and picks; a word behind ^ is one with jumps.
func said(t *testing.T, s, w string, picks ...int) api.Session {
	t.Helper()
	w, jumps := strings.CutPrefix(w, "^")
	return api.Session{T: tree(t, s), Export: "m", Jumps: jumps, Word: word(t, w), Picks: picks}
}

// marked returns a session, and the nodes that are told by the tokens behind each @ of its text.
func marked(t *testing.T, s, w string) (api.Session, []int) {
	t.Helper()
	pieces := strings.Split(s, "@")
	x := said(t, strings.Join(pieces, ""), w)
	var l []int
	at := 0
	for _, piece := range pieces[:len(pieces)-1] {
		at += len(piece)
		n := slices.IndexFunc(x.T.Nodes[1:], func(y api.TreeNode) bool { return y.At == at })
		if n < 0 {
			t.Fatalf("no node at %d of %q", at, s)
		}
		l = append(l, n+1)
	}
	return x, l
}

// texts returns the texts of moves, with blanks between.
func texts(w []api.Move) string {
	var l []string
	for _, m := range w {
		s, e := arena.Text(m)
		if e != api.OK {
			s = "??"
		}
		l = append(l, s)
	}
	return strings.Join(l, " ")
}

// shown returns what a turn says: its state, its move, and At, Steps and Picks.
func shown(u api.Turn) string {
	state := map[uint8]string{api.StateAsks: "asks", api.StateOver: "over", api.StateHangs: "hangs", api.StateOdd: "odd"}[u.State]
	for _, m := range u.Moves {
		state += " " + texts([]api.Move{m})
	}
	return state + "; " + strconv.Itoa(u.At) + ", " + strconv.Itoa(u.Steps) + ", " + strconv.Itoa(u.Picks)
}

// sameTurn reports whether two turns are the same; nil and empty lists are.
func sameTurn(a, b api.Turn) bool {
	return a.State == b.State && slices.Equal(a.Moves, b.Moves) && a.At == b.At && a.Steps == b.Steps && a.Picks == b.Picks
}

// isNoTurn reports whether a turn is the zero value.
func isNoTurn(u api.Turn) bool { return sameTurn(u, api.Turn{}) }

// sameArena reports whether two arenas are the same; nil and empty lists are.
func sameArena(a, b api.Arena) bool {
	return a.Root == b.Root && a.Jumps == b.Jumps && slices.EqualFunc(a.Ids, b.Ids, func(x, y api.Type) bool {
		return x.Result == y.Result && slices.Equal(x.Params, y.Params)
	})
}

// next returns the turn of a session that has no error.
func next(t *testing.T, x api.Session) api.Turn {
	t.Helper()
	u, e := Next(x)
	if e != api.OK {
		t.Fatalf("Next of %s: %v", texts(x.Word), e)
	}
	return u
}

// with returns a session with some moves behind its word.
func with(x api.Session, w ...api.Move) api.Session {
	x.Word = slices.Concat(x.Word, w)
	return x
}

// again returns a text some times, with blanks between.
func again(n int, s string) string { return strings.Join(slices.Repeat([]string{s}, n), " ") }

// source returns the same numbers in each run.
func source(n uint64) *rand.Rand { return rand.New(rand.NewPCG(n, 6)) }

// session returns an export of a random program without an error.
func session(r *rand.Rand) api.Session {
	return api.Session{T: samples.Tree(r.IntN), Export: "m", Jumps: r.IntN(2) == 0}
}

// pick returns one of a list.
func pick[T any](r *rand.Rand, l ...T) T { return l[r.IntN(len(l))] }
