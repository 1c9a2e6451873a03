package arena

import (
	"slices"
	"strings"
	"testing"

	"riposte/api"
)

// P4.8: texts of moves, there and back.
func TestTextAndParse(t *testing.T) {
	const most = 1<<63 - 1
	for s, m := range map[string]api.Move{
		"0?": {Kind: api.MoveAsk}, "0=0": {Kind: api.MovePut}, "0!0": {Kind: api.MoveTell}, "0!*": {Kind: api.MoveTell, N: api.Esc}, "1!*": {Id: 1, Kind: api.MoveTell, N: api.Esc}, "1.1!2": {Id: 1, Arg: 1, Kind: api.MoveTell, N: 2}, "1.2=1": {Id: 1, Arg: 2, Kind: api.MovePut, N: 1},
		"12.3=40": {Id: 12, Arg: 3, Kind: api.MovePut, N: 40}, "0.1?": {Arg: 1, Kind: api.MoveAsk}, "100.20?": {Id: 100, Arg: 20, Kind: api.MoveAsk}, "10.10!*": {Id: 10, Arg: 10, Kind: api.MoveTell, N: api.Esc},
		"9223372036854775807?": {Id: most, Kind: api.MoveAsk}, "9223372036854775807.9223372036854775807!9223372036854775807": {Id: most, Arg: most, Kind: api.MoveTell, N: most}, "0=9223372036854775807": {Kind: api.MovePut, N: most},
	} {
		if u, e := Text(m); u != s || e != api.OK {
			t.Errorf("Text of %v: %q, %v", m, u, e)
		}
		if n, e := Parse(s); n != m || e != api.OK {
			t.Errorf("Parse of %q: %v, %v", s, n, e)
		}
	}
}

// P4.8: moves that have no text.
func TestTextless(t *testing.T) {
	for _, m := range []api.Move{
		{}, {Kind: 4}, {Kind: 255}, {Kind: 4, N: api.Esc}, {Id: -1, Kind: api.MoveAsk}, {Arg: -1, Kind: api.MoveAsk}, {Id: -1, Kind: api.MoveTell}, {Id: 1, Arg: -1 << 63, Kind: api.MovePut}, {Id: -1 << 63, Kind: api.MovePut},
		{Kind: api.MoveAsk, N: 1}, {Kind: api.MoveAsk, N: api.Esc}, {Kind: api.MovePut, N: api.Esc}, {Kind: api.MovePut, N: -1 << 63}, {Kind: api.MoveTell, N: -2}, {Kind: api.MoveTell, N: -1 << 63},
	} {
		if s, e := Text(m); s != "" || e != api.ErrForm {
			t.Errorf("Text of %v: %q, %v", m, s, e)
		}
	}
}

// P4.8: texts of no move.
func TestParseErrors(t *testing.T) {
	for _, s := range []string{
		"", "?", "!", "=", ".", "*", "1", "1.2", "1=", "1!", ".1?", "1.?", "1..1?", "1.2.3?", "?1", "!0", "=0", "1?0", "1??", "1!!", "1!=0", "1=!0", "1?!0", "1?=0", "1!0?", "1=0!0", "1=0=0", "1!0!0",
		"01?", "00?", "1.0?", "1.00?", "1.01?", "1=00", "1=01", "1!00", "-1?", "-0?", "1.-1?", "1=-1", "1!-1", "1!-0", "+1?", "1.+1?", "1!+1", "1=+0", "1_0?", "0x1?", "1e1?", "1!1_0", "1.5e1?",
		" 1?", "1 ?", "1? ", "1!0 ", "1! 0", "1 .1?", "1. 1?", "1?\n", "\x001?", "1?\x00", "1!*0", "1!**", "1=*", "1*", "*?", "1.*?", "1?*", "a?", "1!a", "1:0", "1,1?", "①?", "1\xff?", "1!\xff",
		"9223372036854775808?", "1.9223372036854775808?", "1=9223372036854775808", "1!9223372036854775808", "99999999999999999999999999?", "18446744073709551617?", "1!-9223372036854775808", strings.Repeat("1", 1<<20) + "?", strings.Repeat("1?", 1<<20), strings.Repeat("0", 1<<20) + "1!0",
	} {
		if m, e := Parse(s); m != (api.Move{}) || e != api.ErrForm {
			t.Errorf("Parse of %.40q: %v, %v", s, m, e)
		}
	}
}

// P4.9: texts of arenas, there and back.
func TestShowAndRead(t *testing.T) {
	eight := strings.Repeat("; (cell 64, cell 64, cell 64, cell 64, cell 64) -> int 64", 8)
	for s, a := range map[string]api.Arena{
		"int 1": {Root: number(1)}, "cell 64": {Root: cell(64)}, "int 10; jumps": {Root: number(10), Jumps: true}, "cell 1; int 2; cell 3": {Root: cell(1), Ids: []api.Type{alone(number(2)), alone(cell(3))}},
		example:                                 {Root: number(2), Ids: []api.Type{function(number(1), number(3), cell(2)), alone(cell(2))}},
		"int 2; (cell 1) -> int 64; jumps":      {Root: number(2), Ids: []api.Type{function(number(64), cell(1))}, Jumps: true},
		"int 2; (int 1, int 1, int 2) -> int 9": {Root: number(2), Ids: []api.Type{function(number(9), number(1), number(1), number(2))}},
		"cell 64" + eight + "; jumps":           {Root: cell(64), Ids: slices.Repeat([]api.Type{function(number(64), slices.Repeat([]api.Base{cell(64)}, 5)...)}, 8), Jumps: true},
	} {
		if u, e := Show(a); u != s || e != api.OK {
			t.Errorf("Show of %v: %q, %v", a, u, e)
		}
		if b, e := Read(s); !alike(a, b) || e != api.OK {
			t.Errorf("Read of %q: %v, %v", s, b, e)
		}
	}
}

// P4.9: texts of no arena that is right.
func TestReadErrors(t *testing.T) {
	for _, s := range []string{
		"", "int", "cell", "2", "int ", " 2", "int 0", "int 65", "cell 0", "cell 65", "int -1", "int 01", "int +1", "int 1_0", "int 0x1", "int 00", "int -0", "int 9999999999999999999999", "int 2.", "int two", "int*", "int *",
		"Int 2", "INT 2", "in 2", "ints 2", "com", "bool", "cells 2", "cel 2", "jumps", "; jumps", "jumps; int 2", "int 2;", "int 2; ", "int 2;jumps", "int 2; jump", "int 2; jumps;", "int 2; jumps; ", "int 2; jumps; jumps", "int 2; jumps; int 2", "int 2 jumps", "int 2; Jumps", "int 2;  jumps", "int 2; jumps ", "int 2; jumps\n",
		"int  2", " int 2", "int 2 ", "int 2\n", "int\t2", "int 2;int 2", "int 2;  int 2", "int 2 ; int 2", "; int 2", "; ", ";", "int 2; ; int 2", "int 2, int 2", "int 2\x00", "\xffint 2",
		"(int 2) -> int 2", "(int 2)", "int 2; (int 2)", "int 2; () -> int 2", "int 2; -> int 2", "int 2; ) -> int 2", "int 2; int 2) -> int 2", "int 2; ((int 2) -> int 2", "int 2; ((int 2)) -> int 2", "int 2; (int 2 -> int 2", "int 2; (int 2) ->int 2", "int 2; (int 2)-> int 2", "int 2; (int 2) -> ", "int 2; (int 2) -> cell 2", "int 2; (int 2) -> (int 2) -> int 2", "int 2; (int 2) -> jumps", "int 2; (jumps) -> int 2",
		"int 2; (int 2,int 2) -> int 2", "int 2; (int 2,  int 2) -> int 2", "int 2; (int 2, ) -> int 2", "int 2; (, int 2) -> int 2", "int 2; (int 2; int 2) -> int 2", "int 2; (int 65) -> int 2", "int 2; (int 0) -> int 2", "int 2; (int 2) -> int 65", "int 2; (int 2) -> int 0", "int 2; (cell 02) -> int 2", "int 2; (com) -> int 2",
		"int 2" + strings.Repeat("; int 2", 9), "int 2; (int 2" + strings.Repeat(", int 2", 5) + ") -> int 2", strings.Repeat("int 2; ", 1<<16), strings.Repeat("(", 1<<16), "int 2; (" + strings.Repeat("int 2, ", 1<<16) + "int 2) -> int 2", "int " + strings.Repeat("0", 1<<20) + "1",
	} {
		if a, e := Read(s); !alike(a, api.Arena{}) || e != api.ErrForm {
			t.Errorf("Read of %.60q: %v, %v", s, a, e)
		}
	}
}
