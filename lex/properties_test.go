package lex

import (
	"math/rand/v2"
	"slices"
	"strings"
	"testing"

	"riposte/api"
)

// rounds is how many random inputs a property is tried with.
const rounds = 4000

// source returns the same numbers in each run.
func source(n uint64) *rand.Rand { return rand.New(rand.NewPCG(n, 1)) }

// chunk returns a random part of a text, most often one that has tokens.
func chunk(r *rand.Rand) string {
	l := []string{"a", "b", "xs", "if", "in", "int", "0", "1", "20", ":", "=", ":=", "-", "->", "<", "+", "(", ")", "{", "}", ";", ".", " ", " ", " ", "\n", "\n", "~", "~a b\n", "~:=\n", "i", "n", "abcdefghijk"}
	return l[r.IntN(len(l))]
}

// text returns a random text; not each of them has tokens.
func text(r *rand.Rand) string {
	var b strings.Builder
	for range r.IntN(20) {
		b.WriteString(chunk(r))
	}
	if r.IntN(10) == 0 {
		b.WriteString([]string{"#", "A", "01", "9999999", ">"}[r.IntN(5)])
	}
	return b.String()
}

// splices returns random splices that are right for a text.
func splices(r *rand.Rand, s string) []api.Splice {
	at := make([]int, 2*r.IntN(5))
	for i := range at {
		at[i] = r.IntN(len(s) + 1)
	}
	slices.Sort(at)
	var l []api.Splice
	for ; len(at) > 0; at = at[2:] {
		t := ""
		for range r.IntN(3) {
			t += chunk(r)
		}
		l = append(l, api.Splice{From: at[0], To: at[1], Text: t})
	}
	return l
}

// placeless returns tokens without their places.
func placeless(l []api.Token) []api.Token {
	var out []api.Token
	for _, t := range l {
		t.At = 0
		out = append(out, t)
	}
	return out
}

// P1.1: tokens and comments are all of a text but blanks and line feeds, and each token is the longest one.
func TestTokensCoverTexts(t *testing.T) {
	r := source(1)
	for range rounds {
		s := text(r)
		l, _, e := Tokens(s)
		notes, f := Notes(s)
		if f != api.OK {
			t.Fatalf("Notes of %q: %v", s, f)
		}
		if e != api.OK {
			continue
		}
		rest := []byte(s)
		for _, x := range notes {
			clear(rest[x.At : x.At+1+len(x.Text)])
			if s[x.At] != '~' || s[x.At+1:][:len(x.Text)] != x.Text {
				t.Fatalf("Notes of %q: %v", s, x)
			}
		}
		for _, x := range l {
			if string(rest[x.At:][:len(x.Text)]) != x.Text {
				t.Fatalf("Tokens of %q: %v", s, x)
			}
			clear(rest[x.At : x.At+len(x.Text)])
			for end := x.At + len(x.Text) + 1; end <= len(s); end++ {
				for kind := api.TokName; kind <= api.TokSign; kind++ {
					if right(tok(kind, s[x.At:end], 0)) {
						t.Fatalf("Tokens of %q: %q is longer than %q", s, s[x.At:end], x.Text)
					}
				}
			}
		}
		if strings.Trim(string(rest), " \n\x00") != "" {
			t.Fatalf("Tokens of %q leave %q", s, rest)
		}
	}
}

// P1.10: tokens of what Tight returns are the tokens that it was given, and each of its blanks is needed.
func TestTightBack(t *testing.T) {
	r := source(2)
	for range rounds {
		s := text(r)
		l, _, e := Tokens(s)
		if e != api.OK {
			continue
		}
		tight, e := Tight(l)
		if e != api.OK || len(tight) > len(s) {
			t.Fatalf("Tight of %q: %q, %v", s, tight, e)
		}
		back := list(t, tight)
		if !slices.Equal(placeless(back), placeless(l)) || !slices.IsSortedFunc(back, func(a, b api.Token) int { return a.At - b.At }) {
			t.Fatalf("Tokens of %q: %v", tight, back)
		}
		for at := range len(tight) {
			if tight[at] != ' ' {
				continue
			}
			without, _, e := Tokens(tight[:at] + tight[at+1:])
			if e == api.OK && slices.Equal(placeless(without), placeless(l)) {
				t.Fatalf("%q needs no blank at %d", tight, at)
			}
		}
	}
}

// P1.11: places and spots are each other's, and rise together.
func TestPlacesRise(t *testing.T) {
	r := source(3)
	for range rounds {
		s := text(r)
		last := api.Spot{}
		for at := range len(s) + 1 {
			p, e := Spot(s, at)
			if e != api.OK || p.Line < last.Line || p.Line == last.Line && p.Column <= last.Column {
				t.Fatalf("Spot of %q and %d: %v, %v", s, at, p, e)
			}
			if n, e := At(s, p); n != at || e != api.OK {
				t.Fatalf("At of %q and %v: %d, %v", s, p, n, e)
			}
			if line := 1 + strings.Count(s[:at], "\n"); p.Line != line || p.Column != at-strings.LastIndexByte(s[:at], '\n') {
				t.Fatalf("Spot of %q and %d: %v", s, at, p)
			}
			last = p
		}
		for line := range last.Line + 2 {
			for column := range len(s) + 3 {
				at, e := At(s, api.Spot{Line: line, Column: column})
				if p, f := Spot(s, at); e == api.OK && (f != api.OK || p != (api.Spot{Line: line, Column: column})) {
					t.Fatalf("Spot of %q and %d: %v, %v", s, at, p, f)
				}
			}
		}
	}
}

// P1.8, P1.12: what Kept counts stays, it is as much as can be, and what is far away is among it.
func TestFarAway(t *testing.T) {
	r := source(4)
	for range rounds {
		s := text(r)
		for _, x := range splices(r, s) {
			after, _ := Apply(s, []api.Splice{x})
			a, _, e := Tokens(s)
			b, _, f := Tokens(after)
			head, tail, g := Kept(s, x)
			if e != api.OK || f != api.OK {
				if g == api.OK {
					t.Fatalf("Kept of %q and %v: no error", s, x)
				}
				continue
			}
			longer := len(after) - len(s)
			stays := func(i, j, longer int) bool {
				y := a[i]
				y.At += longer
				return b[j] == y
			}
			for i := range head {
				if !stays(i, i, 0) {
					t.Fatalf("Kept of %q and %v: head %d", s, x, head)
				}
			}
			for i := range tail {
				if !stays(len(a)-1-i, len(b)-1-i, longer) {
					t.Fatalf("Kept of %q and %v: tail %d", s, x, tail)
				}
			}
			most := min(len(a), len(b))
			if head < most && stays(head, head, 0) || head+tail < most && stays(len(a)-1-tail, len(b)-1-tail, longer) || head+tail > most {
				t.Fatalf("Kept of %q and %v: %d and %d", s, x, head, tail)
			}
			before, behind := farAway(s, a, x)
			if head < before || head+tail < before+behind {
				t.Fatalf("Kept of %q and %v: %d and %d, and far away are %d and %d", s, x, head, tail, before, behind)
			}
		}
	}
}

// farAway returns how many tokens end before the byte in front of a splice, and how many begin behind the first line feed behind it.
func farAway(s string, l []api.Token, x api.Splice) (before, behind int) {
	feed := strings.IndexByte(s[x.To:], '\n')
	for _, t := range l {
		if t.At+len(t.Text) < x.From {
			before++
		}
		if feed >= 0 && t.At > x.To+feed {
			behind++
		}
	}
	return before, behind
}

// P1.13: what is undone is as before, and bytes that stay are those that were there, in their order.
func TestUndone(t *testing.T) {
	r := source(5)
	for range rounds {
		s := text(r)
		l := splices(r, s)
		after, e := Apply(s, l)
		undo, f := Undo(s, l)
		if e != api.OK || f != api.OK || len(undo) != len(l) {
			t.Fatalf("%q, %v: %v, %v", s, l, e, f)
		}
		if back, e := Apply(after, undo); back != s || e != api.OK {
			t.Fatalf("%q, %v: back is %q, %v", s, l, back, e)
		}
		if again, e := Undo(after, undo); !slices.Equal(again, l) || e != api.OK {
			t.Fatalf("%q, %v: again is %v, %v", s, l, again, e)
		}
		last, gone := -1, 0
		for at := range len(s) + 1 {
			n, e := Moved(s, l, at)
			if e == api.ErrNone {
				gone++
				continue
			}
			if e != api.OK || n <= last || n > len(after) || at < len(s) && after[n] != s[at] {
				t.Fatalf("%q, %v: Moved of %d: %d, %v", s, l, at, n, e)
			}
			if b, e := Moved(after, undo, n); at < len(s) && (b != at || e != api.OK) {
				t.Fatalf("%q, %v: moved back to %d, %v", s, l, b, e)
			}
			last = n
		}
		for _, x := range l {
			gone -= x.To - x.From
		}
		if gone != 0 || last != len(after) {
			t.Fatalf("%q, %v: %d gone, the end at %d", s, l, gone, last)
		}
	}
}

// widest returns the splice with the greatest From, then the smallest To, that leads from a text to another one.
func widest(a, b string) api.Splice {
	for from := len(a); from >= 0; from-- {
		for to := from; to <= len(a); to++ {
			n := len(b) - from - (len(a) - to)
			if n >= 0 && a[:from]+b[min(from, len(b)):min(from, len(b))+n]+a[to:] == b {
				return api.Splice{From: from, To: to, Text: b[from : from+n]}
			}
		}
	}
	return api.Splice{}
}

// P1.7, P1.14: the difference leads from one text to the other, and back.
func TestDifference(t *testing.T) {
	r := source(6)
	for range rounds {
		a := text(r)
		b, e := Apply(a, splices(r, a))
		if e != api.OK || r.IntN(4) == 0 {
			b = text(r)
		}
		l, e := Diff(a, b)
		if s, f := Apply(a, l); s != b || e != api.OK || f != api.OK {
			t.Fatalf("%q, %q: %v, %v", a, b, l, e)
		}
		back, _ := Diff(b, a)
		if undo, e := Undo(a, l); !slices.Equal(undo, back) || e != api.OK {
			t.Fatalf("%q, %q: %v back, %v undone", a, b, back, undo)
		}
		if a == b && len(l) != 0 || a != b && !slices.Equal(l, []api.Splice{widest(a, b)}) {
			t.Fatalf("%q, %q: %v", a, b, l)
		}
	}
}

// P1.9, P1.15: names that become others, and back.
func TestNamesBack(t *testing.T) {
	r := source(7)
	for range rounds {
		s := text(r)
		s, e := Rename(s+" b", "b", "longer")
		if e != api.OK {
			continue
		}
		short, e := Rename(s, "longer", "b")
		if back, f := Rename(short, "b", "longer"); back != s || e != api.OK || f != api.OK {
			t.Fatalf("%q: %q, %q, %v, %v", s, short, back, e, f)
		}
		a, b := placeless(list(t, s)), placeless(list(t, short))
		for i, x := range a {
			if x == tok(api.TokName, "longer", 0) {
				a[i].Text = "b"
			}
		}
		if !slices.Equal(a, b) {
			t.Fatalf("%q: %v, %v", s, a, b)
		}
	}
}

// P1, P2, R4: arguments, and what lies behind the end of lists, stay as they are; results are the same again.
func TestNothingChanges(t *testing.T) {
	l := list(t, "f(x){a}; : = (b)")
	spare := slices.Clone(l)
	for _, f := range []func(){func() { Tight(spare[:7]) }, func() { Pairs(spare[:7]) }, func() { Pairs(spare[:3]) }} {
		if f(); !slices.Equal(spare, l) {
			t.Errorf("tokens became %v", spare)
		}
	}
	x := []api.Splice{cut(1, 2, "xy"), cut(2, 2, ""), cut(9, 3, "\t")}
	y := slices.Clone(x)
	for _, f := range []func(){func() { Apply("abc", y[:2]) }, func() { Moved("abc", y[:2], 2) }, func() { Undo("abc", y[:2]) }, func() { Undo("abc", y) }} {
		if f(); !slices.Equal(x, y) {
			t.Errorf("splices became %v", y)
		}
	}
	undo, _ := Undo("abc", y[:2])
	undo[0].Text = "changed"
	if again, _ := Undo("abc", y[:2]); again[0].Text != "b" {
		t.Errorf("undone again: %v", again)
	}
}

// P1: any bytes, any numbers.
func FuzzLex(f *testing.F) {
	f.Add("x:=1 ~a", "xy", 1, 2, uint8(1))
	f.Add("\xff\x00", "if", -1, 1<<62, uint8(200))
	f.Add(strings.Repeat("{", 901), "~", 900, 901, uint8(4))
	f.Fuzz(func(t *testing.T, s, x string, from, to int, kind uint8) {
		l := []api.Splice{{From: from, To: to, Text: x}}
		n, at, e := Tokens(s)
		if e != api.OK && len(n) != 0 || e == api.OK && at != 0 {
			t.Errorf("Tokens: %v, %d, %v", n, at, e)
		}
		Notes(s)
		Spot(s, from)
		At(s, api.Spot{Line: from, Column: to})
		Tight([]api.Token{tok(kind, s, from), tok(kind, x, to)})
		Pairs([]api.Token{tok(kind, s, from), tok(kind, x, to)})
		Moved(s, l, from)
		Kept(s, l[0])
		Rename(s, x, s)
		if after, e := Apply(s, l); e == api.OK {
			undo, _ := Undo(s, l)
			if back, _ := Apply(after, undo); back != s {
				t.Errorf("%q becomes %q", s, back)
			}
		}
		if d, e := Diff(s, x); e == api.OK {
			if b, _ := Apply(s, d); b != x {
				t.Errorf("%q becomes %q", x, b)
			}
		}
	})
}
