package lex

import (
	"slices"
	"strings"
	"testing"

	"riposte/api"
)

// tok returns a token at a place.
func tok(kind uint8, s string, at int) api.Token { return api.Token{Kind: kind, Text: s, At: at} }

// list returns the tokens of a text that has them.
func list(t *testing.T, s string) []api.Token {
	t.Helper()
	l, _, e := Tokens(s)
	if e != api.OK {
		t.Fatalf("Tokens of %q: %v", s, e)
	}
	return l
}

// words are the keywords, as the chapter lists them.
const words = "and as bool cell choose com def do else export false fn get hang if import in int jump label new not notice of or put skip then true while"

// long returns a text of n bytes.
func long(n int) string { return strings.Repeat("a b\n~c ", n/7+1)[:n] }

// P1.1: tokens and where they begin.
func TestTokensOfTexts(t *testing.T) {
	for _, x := range []struct {
		s    string
		want []api.Token
	}{
		{"", nil},
		{"  \n ~ x := 1\n~", nil},
		{"x:=1 ~a", []api.Token{tok(api.TokName, "x", 0), tok(api.TokSign, ":=", 1), tok(api.TokNumber, "1", 3)}},
		{" \nzZ9\n", []api.Token{tok(api.TokName, "zZ9", 2)}},
		{"a~b\n~c\nd~", []api.Token{tok(api.TokName, "a", 0), tok(api.TokName, "d", 7)}},
		{"1+2", []api.Token{tok(api.TokNumber, "1", 0), tok(api.TokSign, "+", 1), tok(api.TokNumber, "2", 2)}},
		{"a:= =:=-->", []api.Token{tok(api.TokName, "a", 0), tok(api.TokSign, ":=", 1), tok(api.TokSign, "=", 4), tok(api.TokSign, ":=", 5), tok(api.TokSign, "-", 7), tok(api.TokSign, "->", 8)}},
		{":\n=- ", []api.Token{tok(api.TokSign, ":", 0), tok(api.TokSign, "=", 2), tok(api.TokSign, "-", 3)}},
		{"ifA if if0", []api.Token{tok(api.TokName, "ifA", 0), tok(api.TokWord, "if", 4), tok(api.TokName, "if0", 7)}},
		{"0 10 1000000", []api.Token{tok(api.TokNumber, "0", 0), tok(api.TokNumber, "10", 2), tok(api.TokNumber, "1000000", 5)}},
		{"abcdefghijkl", []api.Token{tok(api.TokName, "abcdefghijkl", 0)}},
	} {
		if l, at, e := Tokens(x.s); !slices.Equal(l, x.want) || at != 0 || e != api.OK {
			t.Errorf("%q: %v, %d, %v", x.s, l, at, e)
		}
	}
}

// P1.1: the error of a text, then those of its tokens from left to right, each with its place.
func TestTokensWithErrors(t *testing.T) {
	for _, x := range []struct {
		s  string
		at int
		e  api.Errno
	}{
		{"def Ab", 4, api.ErrForm}, {"a 01", 2, api.ErrForm}, {"1000001", 0, api.ErrRange},
		{"abcdefghijklm", 0, api.ErrForm}, {" abcdefghijk12", 1, api.ErrForm}, {"a\n\n>", 3, api.ErrForm}, {"a-> >", 4, api.ErrForm},
		{"00", 0, api.ErrForm}, {"3x", 0, api.ErrForm}, {"3X", 0, api.ErrForm}, {"x 0a", 2, api.ErrForm},
		{"9999999999999999999999999x", 0, api.ErrForm}, {"09999999", 0, api.ErrForm}, {"(99999999999999999999999999", 1, api.ErrRange}, {"9999999", 0, api.ErrRange},
		{"1000001 #", 0, api.ErrRange}, {"# 1000001", 0, api.ErrForm},
		{"# 01\t", 4, api.ErrArg}, {"~\x1f\x7f", 1, api.ErrArg}, {"x\x80", 1, api.ErrArg}, {"\r\n", 0, api.ErrArg}, {"\x00", 0, api.ErrArg},
		{long(2500) + "\t", 0, api.ErrLimit}, {strings.Repeat("#", 2501), 0, api.ErrLimit},
		{strings.Repeat("+", 901), 900, api.ErrLimit}, {strings.Repeat("+", 902), 900, api.ErrLimit}, {strings.Repeat("+", 900) + " #", 901, api.ErrForm}, {strings.Repeat("+", 900) + " 9999999", 901, api.ErrRange}, {strings.Repeat("+", 901) + "#", 900, api.ErrLimit},
	} {
		if l, at, e := Tokens(x.s); len(l) != 0 || at != x.at || e != x.e {
			t.Errorf("%q: %v, %d, %v", x.s, l, at, e)
		}
	}
}

// P1.1: each limit can be reached.
func TestTokensAtLimits(t *testing.T) {
	if l, at, e := Tokens(strings.Repeat("; ", 900) + "~"); len(l) != 900 || l[899].At != 1798 || at != 0 || e != api.OK {
		t.Errorf("900 tokens: %d, %d, %v", len(l), at, e)
	}
	if l, at, e := Tokens(long(2500)); len(l) == 0 || at != 0 || e != api.OK {
		t.Errorf("2500 bytes: %d, %d, %v", len(l), at, e)
	}
}

// P1.1: each byte alone.
func TestTokensOfBytes(t *testing.T) {
	for b := range 256 {
		s := string([]byte{byte(b)})
		var want []api.Token
		e := api.OK
		switch {
		case b < ' ' && b != '\n' || b > 126:
			e = api.ErrArg
		case b == ' ' || b == '\n' || b == '~':
		case b >= 'a' && b <= 'z':
			want = []api.Token{tok(api.TokName, s, 0)}
		case b >= '0' && b <= '9':
			want = []api.Token{tok(api.TokNumber, s, 0)}
		case strings.Contains("= < + - * ! ( ) { } , ; : .", s):
			want = []api.Token{tok(api.TokSign, s, 0)}
		default:
			e = api.ErrForm
		}
		if l, at, f := Tokens(s); !slices.Equal(l, want) || at != 0 || f != e {
			t.Errorf("%q: %v, %d, %v", s, l, at, f)
		}
	}
}

// P1.1: the keywords, and only they, are none of the names.
func TestKeywords(t *testing.T) {
	l := list(t, words)
	if len(l) != 30 {
		t.Errorf("%d keywords", len(l))
	}
	for _, x := range l {
		if x.Kind != api.TokWord {
			t.Errorf("%q has the kind %d", x.Text, x.Kind)
		}
		for _, s := range []string{x.Text + "x", x.Text + "0", x.Text + "A"} {
			if l := list(t, s); !slices.Equal(l, []api.Token{tok(api.TokName, s, 0)}) {
				t.Errorf("%q: %v", s, l)
			}
		}
	}
	for _, s := range []string{"a", "an", "i", "skipped", "whil", "letter", "return", "var", "bOOL"} {
		if l := list(t, s); len(l) != 1 || l[0].Kind != api.TokName {
			t.Errorf("%q: %v", s, l)
		}
	}
}

// P1.1: comments, and that only the text itself counts for them.
func TestNotes(t *testing.T) {
	for _, x := range []struct {
		s    string
		want []api.Token
		e    api.Errno
	}{
		{"", nil, api.OK}, {"x", nil, api.OK}, {"x ~a", []api.Token{tok(api.TokNote, "a", 2)}, api.OK},
		{"~", []api.Token{tok(api.TokNote, "", 0)}, api.OK}, {"~\n~\n", []api.Token{tok(api.TokNote, "", 0), tok(api.TokNote, "", 2)}, api.OK},
		{"~ ~a \nx~~\n", []api.Token{tok(api.TokNote, " ~a ", 0), tok(api.TokNote, "~", 7)}, api.OK},
		{"#01 9999999~if\nAbcdefghijklmnop~x", []api.Token{tok(api.TokNote, "if", 11), tok(api.TokNote, "x", 31)}, api.OK},
		{"x\x7f", nil, api.ErrArg}, {"~a\t", nil, api.ErrArg}, {strings.Repeat("\t", 2501), nil, api.ErrLimit},
	} {
		if l, e := Notes(x.s); !slices.Equal(l, x.want) || e != x.e {
			t.Errorf("%q: %v, %v", x.s, l, e)
		}
	}
	if l, e := Notes(strings.Repeat("~\n", 1250)); len(l) != 1250 || e != api.OK {
		t.Errorf("1250 comments: %d, %v", len(l), e)
	}
	if l, e := Notes(strings.Repeat(";", 1200) + "~"); len(l) != 1 || e != api.OK {
		t.Errorf("a comment behind 1200 tokens: %d, %v", len(l), e)
	}
}

// P1.2: places, and lines and columns.
func TestSpotAndAt(t *testing.T) {
	for _, x := range []struct {
		s  string
		at int
		p  api.Spot
	}{
		{"", 0, api.Spot{Line: 1, Column: 1}},
		{"a\nbc", 0, api.Spot{Line: 1, Column: 1}}, {"a\nbc", 1, api.Spot{Line: 1, Column: 2}}, {"a\nbc", 2, api.Spot{Line: 2, Column: 1}}, {"a\nbc", 3, api.Spot{Line: 2, Column: 2}}, {"a\nbc", 4, api.Spot{Line: 2, Column: 3}},
		{"\n", 0, api.Spot{Line: 1, Column: 1}}, {"\n", 1, api.Spot{Line: 2, Column: 1}},
		{"ab\n\nc", 2, api.Spot{Line: 1, Column: 3}}, {"ab\n\nc", 3, api.Spot{Line: 2, Column: 1}}, {"ab\n\nc", 4, api.Spot{Line: 3, Column: 1}},
		{strings.Repeat("#", 2500), 2500, api.Spot{Line: 1, Column: 2501}}, {strings.Repeat("\n", 2500), 2500, api.Spot{Line: 2501, Column: 1}},
	} {
		if p, e := Spot(x.s, x.at); p != x.p || e != api.OK {
			t.Errorf("Spot of %q and %d: %v, %v", x.s, x.at, p, e)
		}
		if at, e := At(x.s, x.p); at != x.at || e != api.OK {
			t.Errorf("At of %q and %v: %d, %v", x.s, x.p, at, e)
		}
	}
}

// P1.2: places that are not there.
func TestSpotAndAtWithErrors(t *testing.T) {
	const most, least = 1<<63 - 1, -1 << 63
	for _, at := range []int{-1, 5, most, least} {
		for s, want := range map[string]api.Errno{"a\nbc": api.ErrRange, "a\t": api.ErrArg, long(2501): api.ErrLimit} {
			if s == long(2501) && at == 5 {
				continue
			}
			if p, e := Spot(s, at); p != (api.Spot{}) || e != want {
				t.Errorf("Spot of %q and %d: %v, %v", s, at, p, e)
			}
		}
	}
	for _, p := range []api.Spot{{}, {Line: 1}, {Column: 1}, {Line: 1, Column: 3}, {Line: 2, Column: 4}, {Line: 3, Column: 1}, {Line: 1, Column: -1}, {Line: -1, Column: 1}, {Line: 2, Column: most}, {Line: most, Column: most}, {Line: least, Column: least}, {Line: 2, Column: least}} {
		for s, want := range map[string]api.Errno{"a\nbc": api.ErrNone, "a\t": api.ErrArg, "\t" + long(2500): api.ErrLimit} {
			if p.Line == 1 && p.Column == 3 && want == api.ErrLimit {
				continue
			}
			if at, e := At(s, p); at != 0 || e != want {
				t.Errorf("At of %q and %v: %d, %v", s, p, at, e)
			}
		}
	}
}
