package play

import (
	"math/rand/v2"
	"slices"
	"testing"

	"riposte/api"
	"riposte/arena"
)

// againstBook compares all that is told of a legal word with what the chapter's words say.
func againstBook(t *testing.T, a api.Arena, w api.Word) {
	t.Helper()
	b := book{a, w}
	if s, e := Stand(a, w); !sameStand(s, b.stand()) || e != api.OK {
		t.Fatalf("%v: Stand of %s: %v, %v, not %v", a, texts(t, w), s, e, b.stand())
	}
	if l, e := Next(a, w); !slices.Equal(l, b.next()) || e != api.OK {
		t.Fatalf("%v: Next of %s: %s, %v, not %s", a, texts(t, w), texts(t, l), e, texts(t, b.next()))
	}
	partners, e := Partners(a, w)
	justifiers, f := Justifiers(a, w)
	if len(partners) != len(w) || len(justifiers) != len(w) || e != api.OK || f != api.OK {
		t.Fatalf("%v: Partners and Justifiers of %s: %v, %v, %v, %v", a, texts(t, w), partners, e, justifiers, f)
	}
	for n := range w {
		if partners[n] != b.partner(n) || justifiers[n] != b.justifier(n) {
			t.Fatalf("%v: Partners and Justifiers of %s: %v, %v", a, texts(t, w), partners, justifiers)
		}
	}
	if n, e := Depth(a, w); n != b.depth() || e != api.OK {
		t.Fatalf("%v: Depth of %s: %d, %v", a, texts(t, w), n, e)
	}
	viewsAgainstBook(t, b)
	if c, e := Close(a, w); !slices.Equal(c, b.close()) || e != api.OK {
		t.Fatalf("%v: Close of %s: %s, %v", a, texts(t, w), texts(t, c), e)
	}
}

// viewsAgainstBook compares both views of a word.
func viewsAgainstBook(t *testing.T, b book) {
	t.Helper()
	v, e := View(b.a, b.w)
	s, f := Sight(b.a, b.w)
	switch {
	case len(b.w) == 0:
		if e != api.ErrState || f != api.ErrState {
			t.Fatalf("%v: View and Sight of the empty word: %v, %v", b.a, e, f)
		}
	case b.ofOther():
		if !slices.Equal(v, b.view()) || e != api.OK || len(s) > 0 || f != api.ErrState {
			t.Fatalf("%v: View and Sight of %s: %v, %v, %v, %v, not %v", b.a, texts(t, b.w), v, e, s, f, b.view())
		}
	default:
		if !slices.Equal(s, b.sight()) || f != api.OK || len(v) > 0 || e != api.ErrState {
			t.Fatalf("%v: View and Sight of %s: %v, %v, %v, %v, not %v", b.a, texts(t, b.w), v, e, s, f, b.sight())
		}
	}
}

// P5.1 to P5.8: random legal words are told of as the chapter says.
func TestAgainstBook(t *testing.T) {
	lost, forced, over := 0, 0, 0
	for a, w := range walks {
		againstBook(t, a, w)
		if at, e := Check(a, w); at != 0 || e != api.OK {
			t.Fatalf("%v: Check of %s: %d, %v", a, texts(t, w), at, e)
		}
		s, _ := Stand(a, w)
		if s.Lost {
			lost++
		}
		if s.Forced {
			forced++
		}
		if s.Turn == api.TurnOver {
			over++
		}
	}
	if lost < 20 || forced < 20 || over < 20 {
		t.Errorf("only %d lost, %d forced, %d complete words", lost, forced, over)
	}
}

// P5.2 to P5.8, P5.11: a long word, and each of its beginnings, is told of as the chapter says.
func TestLongWalk(t *testing.T) {
	r := source(3)
	for _, a := range []api.Arena{of(t, plain), of(t, calls)} {
		var w api.Word
		for len(w) < 100 {
			w = walk(r, a, 100)
		}
		for x := range starts(w) {
			againstBook(t, a, x)
		}
	}
}

// P5.1, P5.8, P5.11: words that were spoiled have their error where the chapter says, and what is before it is what Cut returns.
func TestSpoiledWords(t *testing.T) {
	r := source(4)
	flawed := 0
	for a, w := range walks {
		for range 3 {
			x := spoiled(r, a, w)
			first := book{a, x}.first()
			at, e := Check(a, x)
			if first == len(x) {
				if at != 0 || e != api.OK {
					t.Fatalf("%v: Check of %v: %d, %v", a, x, at, e)
				}
			} else {
				flawed++
				if at != first || e != api.ErrOdd {
					t.Fatalf("%v: Check of %v: %d, %v, not %d", a, x, at, e, first)
				}
			}
			if c, e := Cut(a, x); !slices.Equal(c, x[:first]) || e != api.OK {
				t.Fatalf("%v: Cut of %v: %v, %v", a, x, c, e)
			}
		}
	}
	if flawed < 500 {
		t.Errorf("only %d words with errors", flawed)
	}
}

// spoiled returns a word with a random change.
func spoiled(r *rand.Rand, a api.Arena, w api.Word) api.Word {
	l := moves(a)
	at := r.IntN(len(w) + 1)
	to := min(len(w), at+r.IntN(3))
	x := slices.Clone(w[:at])
	for range r.IntN(3) {
		m := l[r.IntN(len(l))]
		if r.IntN(4) == 0 {
			m.N += r.IntN(5) - 2
			m.Kind += uint8(r.IntN(2))
		}
		x = append(x, m)
	}
	return append(x, w[to:]...)
}

// P5.10: the other one begins; both move by turns; the next moves are those of whom has the turn.
func TestByTurns(t *testing.T) {
	for a, w := range walks {
		for n, m := range w {
			if other, e := arena.IsOther(a, m); other != (n%2 == 0) || e != api.OK {
				t.Fatalf("%v: the move %d of %s: %v, %v", a, n, texts(t, w), other, e)
			}
		}
		s, _ := Stand(a, w)
		l, _ := Next(a, w)
		if (s.Turn == api.TurnOver) != (len(l) == 0) || s.Turn != api.TurnOver && (s.Turn == api.TurnOther) != (len(w)%2 == 0) {
			t.Fatalf("%v: Stand and Next of %s: %v, %v", a, texts(t, w), s, l)
		}
		for _, m := range l {
			if other, e := arena.IsOther(a, m); other != (s.Turn == api.TurnOther) || e != api.OK {
				t.Fatalf("%v: the turn %d behind %s has %v: %v, %v", a, s.Turn, texts(t, w), m, other, e)
			}
		}
	}
}

// P5.11: beginnings of legal words are legal; just the next moves can stand behind a word.
func TestBeginnings(t *testing.T) {
	for a, w := range walks {
		l, _ := Next(a, w)
		for _, m := range moves(a) {
			at, e := Check(a, append(slices.Clone(w), m))
			if slices.Contains(l, m) && (at != 0 || e != api.OK) || !slices.Contains(l, m) && (at != len(w) || e != api.ErrOdd) {
				t.Fatalf("%v: %v behind %s: %d, %v", a, m, texts(t, w), at, e)
			}
		}
		for x := range starts(w) {
			l, f := Next(a, x)
			if at, e := Check(a, x); at != 0 || e != api.OK || f != api.OK || len(x) < len(w) && !slices.Contains(l, w[len(x)]) {
				t.Fatalf("%v: the beginning %s of %s: %d, %v, %v", a, texts(t, x), texts(t, w), at, e, f)
			}
		}
	}
}

// P5.12: partners are a question and an answer of one place, with partners between them; a word is complete just if it is not empty and nothing is open.
func TestBrackets(t *testing.T) {
	for a, w := range walks {
		l, _ := Partners(a, w)
		s, _ := Stand(a, w)
		for n, p := range l {
			if p < 0 {
				if !slices.Contains(s.Open, n) {
					t.Fatalf("%v: the move %d of %s has no partner, and is not open", a, n, texts(t, w))
				}
				continue
			}
			x, y := w[min(n, p)], w[max(n, p)]
			if l[p] != n || slices.Contains(s.Open, n) || x.Id != y.Id || x.Arg != y.Arg || !isQuestion(x) || isQuestion(y) {
				t.Fatalf("%v: the partners %d and %d of %s", a, n, p, texts(t, w))
			}
			for _, inside := range l[min(n, p) : max(n, p)+1] {
				if inside < min(n, p) || inside > max(n, p) {
					t.Fatalf("%v: between %d and %d of %s is a partner of %d", a, n, p, texts(t, w), inside)
				}
			}
		}
		if (s.Turn == api.TurnOver) != (len(w) > 0 && len(s.Open) == 0) {
			t.Fatalf("%v: Stand of %s: %v", a, texts(t, w), s)
		}
	}
}

// P5.13: views have the first move and the last one, go by turns, have the justifiers of the program's moves, and are legal words whose view is all of them.
func TestViewsOfViews(t *testing.T) {
	for a, w := range walks {
		v, e := View(a, w)
		if e != api.OK {
			continue
		}
		justifiers, _ := Justifiers(a, w)
		var seen api.Word
		for i, n := range v {
			if n%2 != i%2 || n%2 == 1 && !slices.Contains(v, justifiers[n]) {
				t.Fatalf("%v: View of %s: %v", a, texts(t, w), v)
			}
			seen = append(seen, w[n])
		}
		if v[0] != 0 || v[len(v)-1] != len(w)-1 || !slices.IsSorted(v) {
			t.Fatalf("%v: View of %s: %v", a, texts(t, w), v)
		}
		if at, e := Check(a, seen); at != 0 || e != api.OK {
			t.Fatalf("%v: the view %s of %s: %d, %v", a, texts(t, seen), texts(t, w), at, e)
		}
		if l, e := View(a, seen); len(l) != len(seen) || e != api.OK {
			t.Fatalf("%v: the view of the view %s: %v, %v", a, texts(t, seen), l, e)
		}
	}
}

// P5.14: from the first jump of the other one's own on there are jumps alone, and one way to the end; without Jumps there is none.
func TestLost(t *testing.T) {
	lost := 0
	for a, w := range walks {
		s, _ := Stand(a, w)
		if !s.Lost {
			continue
		}
		lost++
		if !a.Jumps {
			t.Fatalf("%v: %s is lost", a, texts(t, w))
		}
		at := slices.IndexFunc(w, func(m api.Move) bool { return m.N == api.Esc && m.Arg == 0 })
		for at > 0 && w[at-1].N == api.Esc { // forced
			at += 1 + slices.IndexFunc(w[at+1:], func(m api.Move) bool { return m.N == api.Esc && m.Arg == 0 })
		}
		if slices.ContainsFunc(w[at:], func(m api.Move) bool { return m.N != api.Esc }) {
			t.Fatalf("%v: %s is lost from %d on", a, texts(t, w), at)
		}
		whole, _ := Close(a, w)
		for n := len(w); n < len(whole); n++ {
			if l, e := Next(a, whole[:n]); !slices.Equal(l, whole[n:n+1]) || whole[n].N != api.Esc || e != api.OK {
				t.Fatalf("%v: Next of the lost %s: %v, %v", a, texts(t, whole[:n]), l, e)
			}
		}
	}
	if lost < 20 {
		t.Errorf("only %d words are lost", lost)
	}
}

// P5.15: the close is complete, begins with the word, and answers the open questions, the top first.
func TestCloses(t *testing.T) {
	for a, w := range walks {
		c, e := Close(a, w)
		s, _ := Stand(a, w)
		after, f := Stand(a, c)
		if len(c) < len(w) || !slices.Equal(c[:len(w)], w) || e != api.OK || after.Turn != api.TurnOver || f != api.OK {
			t.Fatalf("%v: Close of %s: %s, %v, %v", a, texts(t, w), texts(t, c), e, f)
		}
		if len(w) == 0 {
			continue
		}
		slices.Reverse(s.Open)
		if l, _ := Justifiers(a, c); !slices.Equal(l[len(w):], s.Open) {
			t.Fatalf("%v: Close of %s: %s answers %v", a, texts(t, w), texts(t, c), l[len(w):])
		}
	}
}

// P5.16: the word with the text of a word is this word, also of one that is not legal.
func TestThereAndBack(t *testing.T) {
	r := source(6)
	for a, w := range walks {
		for _, x := range []api.Word{w, spoiled(r, a, w)} {
			sameWord(t, x)
		}
	}
}

// sameWord parses the text of a word, if it has one.
func sameWord(t *testing.T, w api.Word) {
	t.Helper()
	s, e := Text(w)
	if e != api.OK {
		if s != "" || e != api.ErrForm {
			t.Fatalf("Text of %v: %q, %v", w, s, e)
		}
		return
	}
	if x, e := Parse(s); !slices.Equal(x, w) || e != api.OK {
		t.Fatalf("Parse of %q: %v, %v", s, x, e)
	}
}

// FuzzPlay tries any words and any texts.
func FuzzPlay(f *testing.F) {
	f.Add(jumps, []byte{0, 3, 9, 20, 40}, said)
	f.Add(calls, []byte{0, 1, 2, 3, 4, 5, 255, 255, 1}, "0? 1!*")
	f.Add("cell 2; int 2; jumps", []byte{}, " 0?")
	f.Fuzz(func(t *testing.T, place string, b []byte, s string) {
		if w, e := Parse(s); e == api.OK {
			if u, f := Text(w); u != s || f != api.OK {
				t.Fatalf("Parse of %q: %v with the text %q, %v", s, w, u, f)
			}
		}
		a, e := arena.Read(place)
		if e != api.OK || len(b) > 60 {
			return
		}
		w := wordOf(a, b)
		first := book{a, w}.first()
		if at, e := Check(a, w); first < len(w) && (at != first || e != api.ErrOdd) || first == len(w) && (at != 0 || e != api.OK) {
			t.Fatalf("%v: Check of %v: %d, %v", a, w, at, e)
		}
		againstBook(t, a, w[:first])
		sameWord(t, w)
	})
}

// wordOf returns a word that bytes tell: of the moves that can come, or, from 200 on, of all.
func wordOf(a api.Arena, b []byte) api.Word {
	var w api.Word
	for _, x := range b {
		l := book{a, w}.next()
		if x >= 200 || len(l) == 0 {
			l = moves(a)
		}
		w = append(w, l[int(x)%len(l)])
	}
	return w
}
