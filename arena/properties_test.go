package arena

import (
	"math/rand/v2"
	"slices"
	"strings"
	"testing"

	"riposte/api"
)

// againstBook compares what is told of a move near an arena with what the chapter's words say.
func againstBook(t *testing.T, b book, all []api.Move, m api.Move) {
	t.Helper()
	if has, e := Has(b.a, m); has != b.has(m) || e != api.OK {
		t.Fatalf("%v: Has of %v: %v, %v", b.a, m, has, e)
	}
	other, e := IsOther(b.a, m)
	answers, f := Answers(b.a, m)
	under, g := Under(b.a, m)
	switch {
	case !b.has(m):
		if e != api.ErrNone || f != api.ErrNone || g != api.ErrNone {
			t.Fatalf("%v: no move %v: %v, %v, %v", b.a, m, e, f, g)
		}
		return
	case other != b.other(m) || e != api.OK:
		t.Fatalf("%v: IsOther of %v: %v, %v", b.a, m, other, e)
	case b.tells(m):
		if f != api.ErrArg || g != api.ErrArg {
			t.Fatalf("%v: the answer %v: %v, %v", b.a, m, f, g)
		}
		return
	}
	among := func(is func(question, m api.Move) bool) []api.Move {
		return slices.DeleteFunc(slices.Clone(all), func(x api.Move) bool { return !is(m, x) })
	}
	if want := among(func(q, x api.Move) bool { return b.answers(x, q) }); !slices.Equal(answers, want) || f != api.OK {
		t.Fatalf("%v: Answers of %v: %v, %v, not %v", b.a, m, answers, f, want)
	}
	if want := among(b.allows); !slices.Equal(under, want) || g != api.OK {
		t.Fatalf("%v: Under of %v: %v, %v, not %v", b.a, m, under, g, want)
	}
}

// P4.2 to P4.5, P4.11: all moves near some arenas are told of as the chapter says.
func TestAgainstBook(t *testing.T) {
	for a := range arenas {
		b, before := book{a}, twin(a)
		want := b.all(b.has)
		l, e := Moves(a)
		if !slices.Equal(l, want) || e != api.OK {
			t.Fatalf("Moves of %v: %v, %v, not %v", a, l, e, want)
		}
		for m := range b.near {
			againstBook(t, b, want, m)
		}
		if !alike(a, before) {
			t.Fatalf("%v became %v", before, a)
		}
	}
}

// P4.6: places, inner arenas and added types of some arenas.
func TestPartsOfArenas(t *testing.T) {
	r := source(2)
	for a := range arenas {
		for m := range (book{a}).near {
			base, ok := book{a}.base(m)
			if b, e := Place(a, m.Id, m.Arg); b != base || (e == api.OK) != ok {
				t.Fatalf("%v: Place of %v: %v, %v", a, m, b, e)
			}
		}
		for i, typed := range a.Ids {
			want := api.Arena{Root: typed.Result, Jumps: a.Jumps || len(typed.Params) > 0}
			for _, b := range typed.Params {
				want.Ids = append(want.Ids, alone(b))
			}
			if inner, e := Inner(a, i+1); !alike(inner, want) || e != api.OK {
				t.Fatalf("%v: Inner of %d: %v, %v", a, i+1, inner, e)
			}
			cut := a
			cut.Ids = a.Ids[:i]
			if more, e := Add(cut, a.Ids[i:]); !alike(more, a) || e != api.OK {
				t.Fatalf("Add of %v and %v: %v, %v", cut, a.Ids[i:], more, e)
			}
		}
		other := anyArena(r)
		more, e := Add(a, other.Ids)
		if len(a.Ids)+len(other.Ids) > api.MaxIds {
			if e != api.ErrLimit {
				t.Fatalf("Add of %v and %v: %v, %v", a, other.Ids, more, e)
			}
			continue
		}
		want := api.Arena{Ids: slices.Concat(a.Ids, other.Ids), Root: a.Root, Jumps: a.Jumps}
		if !alike(more, want) || e != api.OK {
			t.Fatalf("Add of %v and %v: %v, %v", a, other.Ids, more, e)
		}
	}
}

// P4.10: answers are those of the other side than the question's, and what a question allows is that of the other side, too.
func TestTwoSides(t *testing.T) {
	for a := range arenas {
		l, _ := Moves(a)
		for _, m := range l {
			other, e := IsOther(a, m)
			if e != api.OK {
				t.Fatalf("%v: IsOther of %v: %v", a, m, e)
			}
			answers, _ := Answers(a, m)
			under, _ := Under(a, m)
			for _, x := range slices.Concat(answers, under) {
				if is, e := IsOther(a, x); is == other || e != api.OK {
					t.Fatalf("%v: %v and %v are of one side, or none: %v", a, m, x, e)
				}
			}
		}
	}
}

// P4.11: the answers of all questions are all moves that are no questions, and each is one of a question of its place.
func TestAllMoves(t *testing.T) {
	for a := range arenas {
		l, _ := Moves(a)
		var made []api.Move
		for _, m := range l {
			answers, e := Answers(a, m)
			if e == api.ErrArg {
				continue
			}
			if len(answers) == 0 {
				t.Fatalf("%v: %v has no answer", a, m)
			}
			made = append(made, m)
			for _, x := range answers {
				if x.Id != m.Id || x.Arg != m.Arg {
					t.Fatalf("%v: %v answers %v", a, x, m)
				}
				made = append(made, x)
			}
		}
		sortMoves(made)
		if made = slices.Compact(made); !slices.Equal(made, l) {
			t.Fatalf("Moves of %v: %v, not %v", a, l, made)
		}
	}
}

// sortMoves sorts moves by Less.
func sortMoves(l []api.Move) {
	slices.SortFunc(l, func(a, b api.Move) int {
		switch {
		case Less(a, b):
			return -1
		case Less(b, a):
			return 1
		}
		return 0
	})
}

// anyMove returns a random move; not each is one of an arena, or has a text.
func anyMove(r *rand.Rand) api.Move {
	n := func() int {
		l := []int{-1 << 63, -2, -1, 0, 0, 0, 1, 1, 2, 10, 64, 1<<63 - 1}
		return l[r.IntN(len(l))]
	}
	return api.Move{Id: n(), Arg: n(), Kind: uint8(r.IntN(5)), N: n()}
}

// P4.7, P4.12: of two different moves just one comes before the other one, and this goes on over a third one.
func TestOrder(t *testing.T) {
	r := source(3)
	for range 50000 {
		a, b, c := anyMove(r), anyMove(r), anyMove(r)
		if Less(a, a) || a != b && Less(a, b) == Less(b, a) {
			t.Fatalf("Less of %v and %v: %v, %v", a, b, Less(a, b), Less(b, a))
		}
		if Less(a, b) && Less(b, c) && !Less(a, c) {
			t.Fatalf("Less of %v, %v and %v", a, b, c)
		}
		first := a.N < b.N
		switch {
		case a.Id != b.Id:
			first = a.Id < b.Id
		case a.Arg != b.Arg:
			first = a.Arg < b.Arg
		case a.Kind != b.Kind:
			first = a.Kind < b.Kind
		}
		if Less(a, b) != first {
			t.Fatalf("Less of %v and %v: %v", a, b, !first)
		}
	}
}

// P4.13: the moves inside an identifier are its own, with the sides changed.
func TestInside(t *testing.T) {
	for a := range arenas {
		all, _ := Moves(a)
		for id := 1; id <= len(a.Ids); id++ {
			inner, e := Inner(a, id)
			if e != api.OK {
				t.Fatalf("%v: Inner of %d: %v", a, id, e)
			}
			var want []api.Move
			for _, m := range all {
				if m.Id != id {
					continue
				}
				inside := api.Move{Id: m.Arg, Kind: m.Kind, N: m.N}
				want = append(want, inside)
				other, _ := IsOther(a, m)
				if is, e := IsOther(inner, inside); is == other || e != api.OK {
					t.Fatalf("%v: %v and, inside %d, %v are of one side: %v", a, m, id, inside, e)
				}
			}
			if l, e := Moves(inner); !slices.Equal(l, want) || e != api.OK {
				t.Fatalf("%v: Moves of Inner of %d: %v, %v, not %v", a, id, l, e, want)
			}
		}
	}
}

// P4.14: the moves and arenas with the texts of some are these; a text without its last byte is another one's, or none's.
func TestThereAndBack(t *testing.T) {
	r := source(4)
	for range 20000 {
		m := anyMove(r)
		s, e := Text(m)
		if e != api.OK {
			continue
		}
		if back, e := Parse(s); back != m || e != api.OK {
			t.Fatalf("Parse of %q: %v, %v, not %v", s, back, e, m)
		}
		back, e := Parse(s[:len(s)-1])
		if again, f := Text(back); back == m || e == api.OK && (again != s[:len(s)-1] || f != api.OK) {
			t.Fatalf("Parse of %q without the last byte: %v, %v", s, back, e)
		}
	}
	for a := range arenas {
		s, e := Show(a)
		if e != api.OK {
			t.Fatalf("Show of %v: %v", a, e)
		}
		if back, e := Read(s); !alike(back, a) || e != api.OK {
			t.Fatalf("Read of %q: %v, %v", s, back, e)
		}
		back, e := Read(s[:len(s)-1])
		if again, f := Show(back); alike(back, a) || e == api.OK && (again != s[:len(s)-1] || f != api.OK) {
			t.Fatalf("Read of %q without the last byte: %v, %v", s, back, e)
		}
	}
}

// spoiled returns a text with a random change.
func spoiled(r *rand.Rand, s string) string {
	parts := []string{"", "0", "1", "9", "-", "+", "*", "?", "!", "=", ".", " ", ", ", "; ", "(", ")", " -> ", "int ", "cell ", "jumps", "; jumps", "int 2", "x"}
	from := r.IntN(len(s) + 1)
	to := min(len(s), from+r.IntN(4))
	return s[:from] + parts[r.IntN(len(parts))] + s[to:]
}

// P4.8, P4.9: what is read has just the text that it was read from.
func TestSpoiledTexts(t *testing.T) {
	r := source(5)
	moves, read := 0, 0
	for range 20000 {
		m, a := anyMove(r), anyArena(r)
		if s, e := Text(m); e == api.OK {
			moves += sameText(t, spoiled(r, s))
		}
		s, _ := Show(a)
		read += sameArenaText(t, spoiled(r, s))
	}
	if moves < 100 || read < 100 {
		t.Errorf("only %d moves and %d arenas", moves, read)
	}
}

// sameText parses a text, and returns how many moves it has.
func sameText(t *testing.T, s string) int {
	t.Helper()
	m, e := Parse(s)
	if e != api.OK {
		if e != api.ErrForm || m != (api.Move{}) {
			t.Fatalf("Parse of %q: %v, %v", s, m, e)
		}
		return 0
	}
	if u, e := Text(m); u != s || e != api.OK {
		t.Fatalf("Parse of %q: %v with the text %q, %v", s, m, u, e)
	}
	return 1
}

// sameArenaText reads a text, and returns how many arenas it has.
func sameArenaText(t *testing.T, s string) int {
	t.Helper()
	a, e := Read(s)
	if e != api.OK {
		if e != api.ErrForm || !alike(a, api.Arena{}) {
			t.Fatalf("Read of %q: %v, %v", s, a, e)
		}
		return 0
	}
	if u, e := Show(a); u != s || e != api.OK || Check(a) != api.OK {
		t.Fatalf("Read of %q: %v with the text %q, %v", s, a, u, e)
	}
	return 1
}

// P4.9: texts that are put together by the chapter's words are read as what they were put together from.
func TestWrittenArenas(t *testing.T) {
	r := source(6)
	base := func(b api.Base) string {
		if b.Cell {
			return "cell " + digits(b.N)
		}
		return "int " + digits(b.N)
	}
	for range 500 {
		a := anyArena(r)
		s := base(a.Root)
		for _, x := range a.Ids {
			var params []string
			for _, b := range x.Params {
				params = append(params, base(b))
			}
			s += "; "
			if len(params) > 0 {
				s += "(" + strings.Join(params, ", ") + ") -> "
			}
			s += base(x.Result)
		}
		if a.Jumps {
			s += "; jumps"
		}
		if u, e := Show(a); u != s || e != api.OK {
			t.Fatalf("Show of %v: %q, %v, not %q", a, u, e, s)
		}
		if b, e := Read(s); !alike(a, b) || e != api.OK {
			t.Fatalf("Read of %q: %v, %v", s, b, e)
		}
	}
}

// digits returns the digits of a number of one or two of them.
func digits(n int) string {
	const all = "0123456789"
	if n < 10 {
		return all[n : n+1]
	}
	return digits(n/10) + all[n%10:n%10+1]
}

// FuzzArena tries any arenas, any moves, any texts.
func FuzzArena(f *testing.F) {
	f.Add([]byte{2, 0, 1, 3, 130, 255, 130}, true, 1, 2, uint8(2), 1, "1.2=1", example)
	f.Add([]byte{129, 64, 255, 65}, false, 0, 0, uint8(3), -1, "0!*", "cell 64; (cell 1) -> int 2; jumps")
	f.Fuzz(func(t *testing.T, b []byte, jump bool, id, arg int, kind uint8, n int, s, u string) {
		sameText(t, s)
		sameArenaText(t, s)
		sameArenaText(t, u)
		a, m := arenaOf(b), api.Move{Id: id, Arg: arg, Kind: kind, N: n}
		a.Jumps = jump
		before := twin(a)
		if s, e := Text(m); e == api.OK && sameText(t, s) != 1 {
			t.Fatalf("%v has the text %q, which is none", m, s)
		}
		if Check(a) == api.OK {
			x := book{a}
			againstBook(t, x, x.all(x.has), m)
		}
		Place(a, id, arg)
		if inner, e := Inner(a, id); e == api.OK && Check(inner) != api.OK {
			t.Fatalf("Inner of %v and %d: %v", a, id, inner)
		}
		if more, e := Add(a, a.Ids); e == api.OK && Check(more) != api.OK {
			t.Fatalf("Add of %v and its own: %v", a, more)
		}
		if !alike(a, before) {
			t.Fatalf("%v became %v", before, a)
		}
	})
}

// arenaOf returns an arena that bytes tell: 255 begins a type of its result and its params, others are base types.
func arenaOf(b []byte) api.Arena {
	var a api.Arena
	fresh := false
	for i, x := range b {
		base := api.Base{Cell: x > 127, N: int(x % 128)}
		switch {
		case i == 0:
			a.Root = base
		case x == 255:
			fresh = true
		case fresh || len(a.Ids) == 0:
			a.Ids = append(a.Ids, alone(base))
			fresh = false
		default:
			last := &a.Ids[len(a.Ids)-1]
			last.Params = append(last.Params, base)
		}
	}
	return a
}
