package play

import (
	"slices"
	"strings"
	"testing"

	"riposte/api"
)

// P5.9: texts of words, there and back; whether they are legal does not matter.
func TestTextAndParse(t *testing.T) {
	ask, esc := api.Move{Kind: api.MoveAsk}, api.Move{Id: 1, Kind: api.MoveTell, N: api.Esc}
	for s, w := range map[string]api.Word{
		"": nil, "0?": {ask}, "0? 0?": {ask, ask}, "1!* 0?": {esc, ask}, "0? 1? 1.2=1 1.2!0 1!*": {ask, {Id: 1, Kind: api.MoveAsk}, {Id: 1, Arg: 2, Kind: api.MovePut, N: 1}, {Id: 1, Arg: 2, Kind: api.MoveTell}, esc},
		"12.34=56 9223372036854775807? 7!9223372036854775807": {{Id: 12, Arg: 34, Kind: api.MovePut, N: 56}, {Id: 1<<63 - 1, Kind: api.MoveAsk}, {Id: 7, Kind: api.MoveTell, N: 1<<63 - 1}},
		again(api.MaxWord, "1!*"):                             slices.Repeat(api.Word{esc}, api.MaxWord),
	} {
		if u, e := Text(w); u != s || e != api.OK {
			t.Errorf("Text of %v: %q, %v", w, u, e)
		}
		if v, e := Parse(s); !slices.Equal(v, w) || e != api.OK {
			t.Errorf("Parse of %q: %v, %v", s, v, e)
		}
	}
}

// P5.9, R1: words without a text, ErrLimit before ErrForm.
func TestTextErrors(t *testing.T) {
	ask := api.Move{Kind: api.MoveAsk}
	for _, m := range []api.Move{{}, {Kind: 4}, {Id: -1, Kind: api.MoveAsk}, {Arg: -1, Kind: api.MoveAsk}, {Kind: api.MoveAsk, N: 1}, {Kind: api.MovePut, N: api.Esc}, {Kind: api.MoveTell, N: -2}} {
		for _, w := range []api.Word{{m}, {m, ask}, {ask, m}, {ask, m, ask}, append(slices.Repeat(api.Word{ask}, api.MaxWord-1), m)} {
			if s, e := Text(w); s != "" || e != api.ErrForm {
				t.Errorf("Text of %v: %q, %v", w, s, e)
			}
		}
		if s, e := Text(slices.Repeat(api.Word{m}, api.MaxWord+1)); s != "" || e != api.ErrLimit {
			t.Errorf("Text of %v: %q, %v", m, s, e)
		}
	}
	if s, e := Text(slices.Repeat(api.Word{ask}, api.MaxWord+1)); s != "" || e != api.ErrLimit {
		t.Errorf("Text of a long word: %q, %v", s, e)
	}
}

// P5.9, R1: texts of no word, ErrLimit before ErrForm.
func TestParseErrors(t *testing.T) {
	for _, s := range []string{
		" ", "  ", "0? ", " 0?", "0?  1?", "0?   1?", " 0? 1?", "0? 1? ", "0?\t1?", "0?\n1?", "0? 1?\n", "\n0? 1?", "0?,1?", "0?, 1?", "0?;1?", "0?1?", "0?\x001?", "0?\u00a01?", "x", "0", "0? 1", "0? x 1?", "0? 01?", "0? +1?", "0? -0?", "0? 1!-1", "0? 1.0?", "0? 1=", "0? 1!", "0? !0", "0? 9223372036854775808?", "\xff", "0? \xff 1?", "~", "0? ~",
		strings.Repeat(" ", api.MaxWord-1), again(api.MaxWord-1, "0?") + " ", " " + again(api.MaxWord-1, "0?"), again(api.MaxWord-1, "0?") + " 0", again(api.MaxWord/2, "x"), strings.Repeat("0?", 1<<16), strings.Repeat("\n", 1<<16),
	} {
		if w, e := Parse(s); len(w) > 0 || e != api.ErrForm {
			t.Errorf("Parse of %.60q: %v, %v", s, w, e)
		}
	}
	for _, s := range []string{strings.Repeat(" ", api.MaxWord), strings.Repeat(" ", 1<<20), again(api.MaxWord+1, "0?"), again(api.MaxWord, "0?") + " ", " " + again(api.MaxWord, "0?"), again(api.MaxWord+1, "x"), again(api.MaxWord*2, "0?"), "x" + strings.Repeat(" ", api.MaxWord) + "y"} {
		if w, e := Parse(s); len(w) > 0 || e != api.ErrLimit {
			t.Errorf("Parse of %.60q with %d blanks: %v, %v", s, strings.Count(s, " "), w, e)
		}
	}
}
