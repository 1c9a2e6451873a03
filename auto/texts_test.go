package auto

import (
	"strconv"
	"strings"
	"testing"

	"riposte/api"
)

// P8.9: texts of automata, there and back.
func TestTextAndParse(t *testing.T) {
	for s, x := range map[string]api.Auto{
		"0\n": lone(false), "0*\n": lone(true), "0 0?>1\n1*\n": line(2), "0* 0?>0\n": {Next: [][]api.Edge{{{Move: ask, To: 0}}}, Final: []bool{true}},
		"0 0?>1\n1 0!0>2 1?>3\n2*\n3 1!0>4\n4 0!1>2\n": only(t, two),
		"0* 0!*>0 12.34=56>0 12.34!9223372036854775807>1\n1 0.7?>0\n": {Next: [][]api.Edge{
			{{Move: api.Move{Kind: api.MoveTell, N: api.Esc}}, {Move: api.Move{Id: 12, Arg: 34, Kind: api.MovePut, N: 56}}, {Move: api.Move{Id: 12, Arg: 34, Kind: api.MoveTell, N: 1<<63 - 1}, To: 1}}, {{Move: api.Move{Arg: 7, Kind: api.MoveAsk}}},
		}, Final: []bool{true, false}},
	} {
		if u, e := Text(x); u != s || e != api.OK {
			t.Errorf("Text of %v: %q, %v, not %q", x, u, e, s)
		}
		if y, e := Parse(s); !alike(x, y) || e != api.OK {
			t.Errorf("Parse of %q: %v, %v", s, y, e)
		}
	}
	for _, x := range []api.Auto{line(api.MaxStates), fanned(0, api.MaxEdges)} {
		s, e := Text(x)
		if y, f := Parse(s); !alike(x, y) || e != api.OK || f != api.OK {
			t.Errorf("Parse of the text of a great automaton: %v, %v", e, f)
		}
	}
}

// P8.9: moves without a text.
func TestTextForm(t *testing.T) {
	for _, m := range []api.Move{{}, {Kind: 4}, {Id: -1, Kind: api.MoveAsk}, {Arg: -1, Kind: api.MoveAsk}, {Kind: api.MoveAsk, N: 1}, {Kind: api.MovePut, N: api.Esc}, {Kind: api.MoveTell, N: -2}} {
		for _, l := range [][]api.Word{{{m}}, {{ask}, {m}}, {{ask, m, ask}, {ask, ask, ask, ask}}} {
			x, e := Only(l)
			if e != api.OK {
				t.Fatalf("Only of %v: %v", l, e)
			}
			if s, e := Text(x); s != "" || e != api.ErrForm {
				t.Errorf("Text of %v: %q, %v", x, s, e)
			}
		}
	}
}

// P8.9: texts of no automaton that is canonical.
func TestParseForm(t *testing.T) {
	line401, _ := written(line(api.MaxStates + 1))
	wide, _ := written(fanned(0, api.MaxEdges+1))
	for _, s := range []string{
		"", "\n", "0", "*", "*\n", "0**\n", "1\n", "1*\n", "-0\n", "+0\n", "00\n", "0 \n", " 0\n", "0* \n", "0 *\n", "\n0\n", "0\n\n", "0*\n\n", "0\r\n", "x\n", "0x\n", "0*x\n", "x*\n", "0\x00\n", "\xff\n",
		"0 0?>1\n1*", "0 0?>1 \n1*\n", "0  0?>1\n1*\n", "0\t0?>1\n1*\n", "0 0?>1\n 1*\n", "0 0?>1\n\n1*\n", "0 0?>1\n2*\n", "0 0?>1\n0*\n", "0 0?>1\n1 *\n", "1*\n0 0?>1\n", "0 0?>1, 1*\n", "0 0?>1\r\n1*\r\n",
		"0* 0?\n", "0* 0?>\n", "0* >0\n", "0* 0>0\n", "0* x>0\n", "0* 0?>x\n", "0* 0?>00\n", "0* 0?>+0\n", "0* 0?>-0\n", "0* 0?>0x\n", "0* 0?>0>0\n", "0* 0?>>0\n", "0* 0? >0\n", "0* 0?> 0\n", "0* 0?0\n", "0* 00?>0\n", "0* 1.0?>0\n", "0* 0!-1>0\n", "0* 0!-0>0\n", "0* 0?0>0\n",
		"0* 0?>1\n", "0* 0?>-1\n", "0* 0?>9223372036854775808\n", "0* 0?>18446744073709551616\n", "0* 9223372036854775808?>0\n",
		"0 0?>0\n", "0* 1?>0 0?>0\n", "0* 0?>0 0?>0\n", "0 0?>1\n1*\n2*\n", "0 0?>2\n1*\n2*\n", "0 0?>1 1?>2\n1*\n2*\n", "0* 0?>1\n1* 0?>0\n", "0 0?>2 1?>1\n1*\n2 0?>1\n", "0 0?>1 1?>1\n1\n",
		line401, wide, strings.Repeat("0\n", 1<<16), strings.Repeat("0* 0?>0 ", 1<<16), strings.Repeat(" ", 1<<20), strings.Repeat("\n", 1<<20), "0" + strings.Repeat("*", 1<<20) + "\n", strings.Repeat("0", 1<<20) + "\n", "0 0?>" + strings.Repeat("0", 1<<20) + "1\n1*\n",
	} {
		if x, e := Parse(s); !isZero(x) || e != api.ErrForm {
			t.Errorf("Parse of %.60q: %v, %v", s, x, e)
		}
	}
	var many strings.Builder
	for n := range 1 << 15 {
		many.WriteString(strconv.Itoa(n) + "*\n")
	}
	if x, e := Parse(many.String()); !isZero(x) || e != api.ErrForm {
		t.Errorf("Parse of many lines: %d states, %v", len(x.Next), e)
	}
}
