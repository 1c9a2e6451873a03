package lex

import (
	"slices"
	"strings"
	"testing"

	"riposte/api"
)

// wrong are tokens that are not right.
func wrong() []api.Token {
	return []api.Token{
		{}, tok(api.TokName, "", 0), tok(api.TokName, "in", 0), tok(api.TokName, "X", 0), tok(api.TokName, "x ", 0), tok(api.TokName, " x", 0), tok(api.TokName, "x~", 0), tok(api.TokName, "x y", 0), tok(api.TokName, "abcdefghijklm", 0), tok(api.TokName, "1", 0), tok(api.TokName, "+", 0), tok(api.TokName, "x\x80", 0), tok(api.TokName, strings.Repeat("x", 1<<20), 0),
		tok(api.TokWord, "", 0), tok(api.TokWord, "x", 0), tok(api.TokWord, "If", 0), tok(api.TokWord, "if ", 0),
		tok(api.TokNumber, "", 0), tok(api.TokNumber, "01", 0), tok(api.TokNumber, "1a", 0), tok(api.TokNumber, "-1", 0), tok(api.TokNumber, "1000001", 0), tok(api.TokNumber, "x", 0), tok(api.TokNumber, strings.Repeat("9", 1<<16), 0),
		tok(api.TokSign, "", 0), tok(api.TokSign, ">", 0), tok(api.TokSign, "<=", 0), tok(api.TokSign, ": =", 0), tok(api.TokSign, "x", 0), tok(api.TokSign, "~", 0), tok(api.TokSign, " ", 0), tok(api.TokSign, "\n", 0), tok(api.TokSign, "#", 0),
		tok(api.TokNote, "x", 0), tok(api.TokNote, "", 0), tok(api.TokNote, "~", 0), tok(api.TokNote, "~x", 0), tok(0, "#", 0), tok(0, "x", 0), tok(6, "x", 0), tok(255, ";", 0),
	}
}

// P1.3: blanks stand just where they are needed.
func TestTight(t *testing.T) {
	for _, x := range []struct{ s, want string }{
		{"", ""}, {" ~x", ""}, {"x : =in (", "x: =in("}, {"x := in (", "x:=in("}, {": := =", "::=="}, {": = : =", ": =: ="},
		{"a b", "a b"}, {"a 1 if 2 do else b", "a 1 if 2 do else b"}, {"a + 1 ; x", "a+1;x"}, {"- -> - < =", "-->-<="}, {"! c . d , ( ) { }", "!c.d,(){}"}, {"a : 1 = b", "a:1=b"}, {"= :", "=:"},
	} {
		if s, e := Tight(list(t, x.s)); s != x.want || e != api.OK {
			t.Errorf("%q: %q, %v", x.s, s, e)
		}
	}
	if s, e := Tight([]api.Token{tok(api.TokName, "x", -7), tok(api.TokName, "y", -7), tok(api.TokSign, "(", 1<<62)}); s != "x y(" || e != api.OK {
		t.Errorf("places that mean nothing: %q, %v", s, e)
	}
}

// P1.3: errors and limits.
func TestTightWithErrors(t *testing.T) {
	for i, x := range wrong() {
		for _, l := range [][]api.Token{{x}, {tok(api.TokName, "x", 0), x}, {x, tok(api.TokSign, ")", 0)}, append(slices.Repeat([]api.Token{tok(api.TokName, "abcdefghijkl", 0)}, 899), x)} {
			if s, e := Tight(l); s != "" || e != api.ErrArg {
				t.Errorf("%d: %q, %v", i, s, e)
			}
		}
	}
	if s, e := Tight(slices.Repeat([]api.Token{{}}, 901)); s != "" || e != api.ErrLimit {
		t.Errorf("901 wrong tokens: %q, %v", s, e)
	}
	if s, e := Tight(slices.Repeat([]api.Token{tok(api.TokSign, ";", 0)}, 900)); len(s) != 900 || e != api.OK {
		t.Errorf("900 tokens: %d, %v", len(s), e)
	}
	// 208 tokens of 11 bytes with 207 blanks are 2495 bytes
	l := slices.Repeat([]api.Token{tok(api.TokName, "abcdefghijk", 0)}, 208)
	five, six := append(slices.Clone(l), tok(api.TokName, "abcd", 0)), append(slices.Clone(l), tok(api.TokName, "abcde", 0))
	if s, e := Tight(five); len(s) != 2500 || e != api.OK {
		t.Errorf("2500 bytes: %d, %v", len(s), e)
	}
	if s, e := Tight(six); s != "" || e != api.ErrLimit {
		t.Errorf("2501 bytes: %d, %v", len(s), e)
	}
}

// P1.4: brackets that belong together.
func TestPairs(t *testing.T) {
	for _, x := range []struct {
		s    string
		want []int
		at   int
		e    api.Errno
	}{
		{"", nil, 0, api.OK}, {"x := 1", []int{-1, -1, -1}, 0, api.OK}, {"()", []int{1, 0}, 0, api.OK}, {"{}", []int{1, 0}, 0, api.OK},
		{"f({a})(x)", []int{-1, 5, 4, -1, 2, 1, 8, -1, 6}, 0, api.OK}, {"(){}()", []int{1, 0, 3, 2, 5, 4}, 0, api.OK},
		{"f(x){", nil, 4, api.ErrForm}, {"(}", nil, 1, api.ErrForm}, {"{)", nil, 1, api.ErrForm}, {")", nil, 0, api.ErrForm}, {"}", nil, 0, api.ErrForm}, {"a b)", nil, 2, api.ErrForm},
		{"({()", nil, 0, api.ErrForm}, {"(){(", nil, 2, api.ErrForm}, {"(({)})", nil, 3, api.ErrForm}, {"{()})(", nil, 4, api.ErrForm}, {"x(", nil, 1, api.ErrForm},
	} {
		if l, at, e := Pairs(list(t, x.s)); !slices.Equal(l, x.want) || at != x.at || e != x.e {
			t.Errorf("%q: %v, %d, %v", x.s, l, at, e)
		}
	}
}

// P1.4: the errors of the list come before those of brackets, and the limit can be reached.
func TestPairsWithErrors(t *testing.T) {
	for i, x := range wrong() {
		if l, at, e := Pairs([]api.Token{tok(api.TokSign, ")", 0), x}); len(l) != 0 || at != 0 || e != api.ErrArg {
			t.Errorf("%d: %v, %d, %v", i, l, at, e)
		}
	}
	if l, at, e := Pairs(slices.Repeat([]api.Token{{}}, 901)); len(l) != 0 || at != 0 || e != api.ErrLimit {
		t.Errorf("901 wrong tokens: %v, %d, %v", l, at, e)
	}
	l, at, e := Pairs(list(t, strings.Repeat("(", 450)+strings.Repeat(")", 450)))
	if at != 0 || e != api.OK || len(l) != 900 {
		t.Fatalf("900 brackets: %d, %d, %v", len(l), at, e)
	}
	for i, n := range l {
		if n != 899-i {
			t.Errorf("bracket %d belongs to %d", i, n)
		}
	}
}
