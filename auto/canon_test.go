package auto

import (
	"slices"
	"testing"

	"riposte/api"
)

// The moves of the small automata of the tables, ascending.
var ask, told0, one = api.Move{Kind: api.MoveAsk}, api.Move{Kind: api.MoveTell}, api.Move{Id: 1, Kind: api.MoveAsk}

// P8.1: automata that are canonical.
func TestCheckRight(t *testing.T) {
	for i, x := range []api.Auto{
		lone(false), lone(true), {Next: [][]api.Edge{{}}, Final: []bool{true}},
		{Next: [][]api.Edge{{{Move: ask, To: 0}}}, Final: []bool{true}},
		{Next: [][]api.Edge{{{Move: ask, To: 1}, {Move: told0, To: 1}}, nil}, Final: []bool{false, true}},
		{Next: [][]api.Edge{{{Move: ask, To: 1}, {Move: told0, To: 2}}, {{Move: one, To: 2}}, {{Move: ask, To: 0}}}, Final: []bool{false, false, true}},
		// Moves that no arena has, ascending.
		{Next: [][]api.Edge{{{Move: api.Move{Id: -9}, To: 0}, {Move: api.Move{Id: -9, Arg: 1}, To: 0}, {Move: api.Move{Id: -9, Arg: 1, Kind: 255}, To: 0}, {Move: api.Move{Id: -9, Arg: 1, Kind: 255, N: 1}, To: 0}, {Move: api.Move{}, To: 0}}}, Final: []bool{true}},
		line(api.MaxStates), fanned(0, api.MaxEdges),
	} {
		if e := Check(x); e != api.OK {
			t.Errorf("%d: Check of %v: %v", i, x, e)
		}
	}
}

// P8.1: automata that are not canonical, each by one condition.
func TestCheckForm(t *testing.T) {
	edge := func(m api.Move, to int) api.Edge { return api.Edge{Move: m, To: to} }
	for name, x := range map[string]api.Auto{
		"nothing":                     {},
		"no truth":                    {Next: [][]api.Edge{nil}},
		"no list":                     {Final: []bool{true}},
		"more truths":                 {Next: [][]api.Edge{nil}, Final: []bool{true, true}},
		"fewer truths":                {Next: [][]api.Edge{{edge(ask, 1)}, nil}, Final: []bool{true}},
		"to behind all":               {Next: [][]api.Edge{{edge(ask, 1)}}, Final: []bool{true}},
		"to before all":               {Next: [][]api.Edge{{edge(ask, -1)}}, Final: []bool{true}},
		"to far away":                 {Next: [][]api.Edge{{edge(ask, -1<<63), edge(told0, 1<<63-1)}}, Final: []bool{true}},
		"descending":                  {Next: [][]api.Edge{{edge(told0, 1), edge(ask, 1)}, nil}, Final: []bool{false, true}},
		"twice the same edge":         {Next: [][]api.Edge{{edge(ask, 1), edge(ask, 1)}, nil}, Final: []bool{false, true}},
		"twice the same move":         {Next: [][]api.Edge{{edge(ask, 1), edge(ask, 2)}, {edge(ask, 2)}, nil}, Final: []bool{false, false, true}},
		"one that is not reached":     {Next: [][]api.Edge{nil, {edge(ask, 0)}}, Final: []bool{true, false}},
		"two that are not reached":    {Next: [][]api.Edge{{edge(ask, 0)}, {edge(ask, 2)}, {edge(told0, 0)}}, Final: []bool{true, false, false}},
		"one without an end":          {Next: [][]api.Edge{{edge(ask, 1), edge(told0, 2)}, nil, {edge(ask, 2)}}, Final: []bool{false, true, false}},
		"no word, but an edge":        {Next: [][]api.Edge{{edge(ask, 0)}}, Final: []bool{false}},
		"no word, but two states":     {Next: [][]api.Edge{{edge(ask, 1)}, nil}, Final: []bool{false, false}},
		"no word, and one more state": {Next: [][]api.Edge{nil, nil}, Final: []bool{false, true}},
		"two ends that are the same":  {Next: [][]api.Edge{{edge(ask, 1), edge(told0, 2)}, nil, nil}, Final: []bool{false, true, true}},
		"two ways that are the same":  {Next: [][]api.Edge{{edge(ask, 1), edge(told0, 2)}, {edge(one, 3)}, {edge(one, 3)}, nil}, Final: []bool{false, false, false, true}},
		"a loop twice":                {Next: [][]api.Edge{{edge(ask, 1)}, {edge(ask, 0)}}, Final: []bool{true, true}},
		"numbers by edges":            {Next: [][]api.Edge{{edge(ask, 2), edge(told0, 1)}, nil, {edge(one, 1)}}, Final: []bool{false, true, false}},
		"numbers in depth":            {Next: [][]api.Edge{{edge(ask, 1), edge(told0, 3)}, {edge(ask, 2)}, nil, {edge(told0, 2)}}, Final: []bool{false, false, true, false}},
		"the first one not first":     {Next: [][]api.Edge{nil, {edge(ask, 0)}}, Final: []bool{true, false}},
	} {
		if e := Check(x); e != api.ErrForm {
			t.Errorf("Check with %s: %v", name, e)
		}
		if isCanonicalByBook(x) {
			t.Errorf("%s is canonical by the book", name)
		}
	}
}

// great are automata that are greater than one may be, and those that are just as great as one may be.
func great() (over, full []api.Auto) {
	wide := func(many int) api.Auto {
		return api.Auto{Next: [][]api.Edge{make([]api.Edge, many/2), make([]api.Edge, many-many/2)}, Final: []bool{true, true}}
	}
	over = []api.Auto{
		line(api.MaxStates + 1), fanned(0, api.MaxEdges+1), wide(api.MaxEdges + 1),
		{Next: make([][]api.Edge, api.MaxStates+1)}, {Final: make([]bool, api.MaxStates+1)}, {Next: make([][]api.Edge, 1), Final: make([]bool, api.MaxStates+1)}, {Next: make([][]api.Edge, api.MaxStates+1), Final: make([]bool, 1)},
		{Next: slices.Repeat([][]api.Edge{make([]api.Edge, api.MaxEdges)}, api.MaxStates), Final: make([]bool, 7)},
		{Next: [][]api.Edge{slices.Repeat([]api.Edge{{To: -1}}, api.MaxEdges+1)}, Final: []bool{false}},
	}
	full = []api.Auto{
		{Next: make([][]api.Edge, api.MaxStates), Final: make([]bool, api.MaxStates)}, wide(api.MaxEdges),
	}
	return over, full
}

// P8.1, P8.2: more states or edges than there may be have ErrLimit, whatever else is wrong; as many as there may be have not.
func TestCheckLimit(t *testing.T) {
	over, full := great()
	for i, x := range over {
		if e := Check(x); e != api.ErrLimit {
			t.Errorf("%d: Check: %v", i, e)
		}
		if y, e := Canon(x); e != api.ErrLimit || !isZero(y) {
			t.Errorf("%d: Canon: %v", i, e)
		}
	}
	for i, x := range full {
		if e := Check(x); e != api.ErrForm {
			t.Errorf("%d: Check of a full one: %v", i, e)
		}
		if y, e := Canon(x); e != api.OK || Check(y) != api.OK {
			t.Errorf("%d: Canon of a full one: %v", i, e)
		}
	}
	if e := Check(api.Auto{Next: make([][]api.Edge, api.MaxStates), Final: make([]bool, 1)}); e != api.ErrForm {
		t.Errorf("Check of as many lists as there may be: %v", e)
	}
}

// P8.2: raw automata, and what they become.
func TestCanon(t *testing.T) {
	edge := func(m api.Move, to int) api.Edge { return api.Edge{Move: m, To: to} }
	for i, x := range []struct {
		x    api.Auto
		want string
	}{
		{lone(false), "0"}, {lone(true), "0*"},
		// No word: no end, or none that is reached.
		{api.Auto{Next: [][]api.Edge{{edge(ask, 0)}}, Final: []bool{false}}, "0"},
		{api.Auto{Next: [][]api.Edge{{edge(ask, 1)}, {edge(ask, 0)}, {edge(ask, 0)}}, Final: []bool{false, false, true}}, "0"},
		// Ways without an end.
		{api.Auto{Next: [][]api.Edge{{edge(ask, 1)}, {edge(told0, 1)}}, Final: []bool{true, false}}, "0*"},
		{api.Auto{Next: [][]api.Edge{{edge(told0, 2), edge(ask, 1)}, nil, {edge(ask, 2)}}, Final: []bool{false, true, false}}, "0 0?>1, 1*"},
		// Edges in any order, and twice.
		{api.Auto{Next: [][]api.Edge{{edge(one, 2), edge(told0, 1), edge(ask, 1), edge(one, 2)}, nil, {edge(ask, 1)}}, Final: []bool{false, true, false}}, "0 0?>1 0!0>1 1?>2, 1*, 2 0?>1"},
		// States that are alike.
		{api.Auto{Next: [][]api.Edge{{edge(ask, 1)}, {edge(ask, 2)}, {edge(ask, 0)}}, Final: []bool{true, true, true}}, "0* 0?>0"},
		{api.Auto{Next: [][]api.Edge{{edge(ask, 1), edge(told0, 2)}, {edge(one, 3)}, {edge(one, 4)}, nil, nil}, Final: []bool{false, false, false, true, true}}, "0 0?>1 0!0>1, 1 1?>2, 2*"},
		// Several edges with one move.
		{api.Auto{Next: [][]api.Edge{{edge(ask, 0), edge(ask, 1)}, nil}, Final: []bool{false, true}}, "0 0?>1, 1* 0?>1"},
		{api.Auto{Next: [][]api.Edge{{edge(ask, 1), edge(ask, 2)}, {edge(ask, 0)}, {edge(told0, 0)}}, Final: []bool{true, false, false}}, "0* 0?>1, 1 0?>0 0!0>0"},
		{api.Auto{Next: [][]api.Edge{{edge(ask, 1), edge(ask, 2)}, {edge(ask, 2)}, {edge(ask, 1), edge(one, 2)}}, Final: []bool{false, false, true}}, "0 0?>1, 1* 0?>1 1?>2, 2* 0?>3 1?>2, 3 0?>2"},
		// States in another order.
		{api.Auto{Next: [][]api.Edge{{edge(ask, 2), edge(told0, 1)}, {edge(one, 2)}, nil}, Final: []bool{false, false, true}}, "0 0?>1 0!0>2, 1*, 2 1?>1"},
	} {
		y := canon(t, x.x)
		if got := text(t, y); got != x.want {
			t.Errorf("%d: Canon: %q, not %q", i, got, x.want)
		}
		if z, e := Canon(y); e != api.OK || !alike(z, y) {
			t.Errorf("%d: Canon of the canonical one: %v, %v", i, z, e)
		}
	}
}

// P8.2: what is not raw has ErrForm.
func TestCanonForm(t *testing.T) {
	for i, x := range []api.Auto{
		{}, {Next: [][]api.Edge{nil}}, {Final: []bool{true}}, {Next: [][]api.Edge{nil}, Final: []bool{true, true}}, {Next: [][]api.Edge{nil, nil}, Final: []bool{true}},
		{Next: [][]api.Edge{{{To: 1}}}, Final: []bool{true}}, {Next: [][]api.Edge{{{To: -1}}}, Final: []bool{true}}, {Next: [][]api.Edge{{{To: 1<<63 - 1}}}, Final: []bool{true}},
		{Next: [][]api.Edge{nil, {{Move: ask, To: 0}, {Move: told0, To: 2}}}, Final: []bool{true, false}},
		{Next: make([][]api.Edge, api.MaxStates), Final: make([]bool, api.MaxStates-1)},
	} {
		if y, e := Canon(x); e != api.ErrForm || !isZero(y) {
			t.Errorf("%d: Canon: %v, %v", i, y, e)
		}
		if e := Check(x); e != api.ErrForm {
			t.Errorf("%d: Check: %v", i, e)
		}
	}
}

// P8.3: the automata of lists of words.
func TestOnly(t *testing.T) {
	for s, want := range map[string]string{
		"-": "0", "": "0*", ", ": "0*", "0? 0!0, 0? 1? 1!0 0!1": told, "0? 1? 1!0 0!1, 0? 0!0, 0? 0!0": told,
		"1?": "0 1?>1, 1*", ", 1?": "0* 1?>1, 1*", "1? 1!0, 2? 1!0": "0 1?>1 2?>1, 1 1!0>2, 2*", "1? 1!0, 2? 1!0, 2?": "0 1?>1 2?>2, 1 1!0>3, 2* 1!0>3, 3*",
		"0? 0?, 0? 0? 0? 0?": "0 0?>1, 1 0?>2, 2* 0?>3, 3 0?>4, 4*", "2.1=3, 1!*, 0!0, 1.2?": "0 0!0>1 1!*>1 1.2?>1 2.1=3>1, 1*",
	} {
		if got := text(t, only(t, s)); got != want {
			t.Errorf("Only of %q: %q, not %q", s, got, want)
		}
	}
	strange := []api.Word{{{Id: -7, Kind: 200}}, {{Id: -7, Kind: 200}, {N: -3}}}
	if x, e := Only(strange); e != api.OK || len(x.Next) != 3 || x.Next[0][0].Move != strange[0][0] || x.Next[1][0].Move != strange[1][1] {
		t.Errorf("Only of moves of no arena: %v, %v", x, e)
	}
}

// P8.3: the errors of Only, at their edges. Its result has no limit of sets: many long words that end alike have few states.
func TestOnlyLimits(t *testing.T) {
	long := func(moves int, m api.Move) api.Word { return slices.Repeat(api.Word{m}, moves) }
	var many, tails []api.Word
	for n := range 60 {
		many = append(many, api.Word{letter(n)})
		tails = append(tails, append(api.Word{letter(n)}, long(398, ask)...))
	}
	for i, x := range []struct {
		l      []api.Word
		states int
		e      api.Errno
	}{
		{many, 2, api.OK}, {append(slices.Clone(many), nil), 0, api.ErrLimit}, {slices.Repeat([]api.Word{nil}, 60), 1, api.OK}, {slices.Repeat([]api.Word{nil}, 61), 0, api.ErrLimit},
		{tails, 400, api.OK}, {[]api.Word{long(399, ask)}, 400, api.OK}, {[]api.Word{long(400, ask)}, 0, api.ErrLimit}, {[]api.Word{long(401, ask)}, 0, api.ErrLimit}, {[]api.Word{nil, long(401, ask), nil}, 0, api.ErrLimit},
		{[]api.Word{long(200, ask), long(200, one)}, 400, api.OK}, {[]api.Word{long(201, ask), long(200, one)}, 0, api.ErrLimit},
		{slices.Repeat([]api.Word{long(400, ask)}, 60), 0, api.ErrLimit},
	} {
		y, e := Only(x.l)
		if e != x.e || len(y.Next) != x.states || len(y.Final) != x.states {
			t.Errorf("%d: Only: %d states, %v", i, len(y.Next), e)
		}
		if e == api.OK && !(isCanonicalByBook(y) && onlyBook(x.l).says(y)) {
			t.Errorf("%d: Only: %v", i, y)
		}
	}
}
