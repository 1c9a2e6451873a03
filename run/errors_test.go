package run

import (
	"reflect"
	"slices"
	"strconv"
	"strings"
	"testing"

	"riposte/api"
)

// result is what a function returned: whether all but the error are zero values, and the error.
type result struct {
	zero bool
	e    api.Errno
}

// all returns what all functions returned for a session, by their names.
func all(x api.Session, by []int, many int) map[string]result {
	a, e1 := Arena(x)
	u, e2 := Next(x)
	w, v, e3 := Talk(x, by)
	l, hangs, e4 := Can(x, many)
	from, e5 := From(x)
	store, e6 := Store(x)
	return map[string]result{
		"Arena": {sameArena(a, api.Arena{}), e1}, "Next": {isNoTurn(u), e2}, "Talk": {len(w) == 0 && isNoTurn(v), e3}, "Can": {len(l) == 0 && !hangs, e4}, "From": {len(from) == 0, e5}, "Store": {len(store) == 0, e6},
	}
}

// P6.1 to P6.5, R1, R2, R8: each function has first the errors of the program, then those of the word and the picks, then its own ones, then that of the execution, with zero values.
func TestErrorsAndRanks(t *testing.T) {
	const right, endless = "import i:int 3; export m():int 3=i+1; export n():com=skip;", "export m():com=while true do skip;"
	long, many := make(api.Word, api.MaxWord+1), make([]int, api.MaxPicks+1)
	negative, most := []int{0, -1}, make([]int, api.MaxTalk+1)
	same := func(e api.Errno) [6]api.Errno { return [6]api.Errno{e, e, e, e, e, e} } // Arena, Next, Talk, Can, From, Store
	const ok, limit, ranged = api.OK, api.ErrLimit, api.ErrRange
	tooBig := api.Tree{Nodes: make([]api.TreeNode, api.MaxNodes+1)}
	ids := strings.Repeat("import #:int 2;", api.MaxIds)
	for i := range api.MaxIds {
		ids = strings.Replace(ids, "#", string(rune('a'+i)), 1)
	}
	params := "export m(k:(int 2,int 2,int 2,int 2,int 2,int 2)->com):com=skip;"
	for i, x := range []struct {
		s, export, w string
		word         api.Word
		picks, by    []int
		many         int
		e            [6]api.Errno
	}{
		{s: right, export: "m", w: "0?", e: same(ok)}, {s: right, export: "m", e: same(ok)}, {s: right, export: "n", by: negative[:1], many: api.MaxCan, e: same(ok)},
		// of the program
		{s: "", export: "m", e: same(api.ErrNone)}, {s: right, export: "o", e: same(api.ErrNone)}, {s: right, export: "i", e: same(api.ErrNone)}, {s: right, export: "", e: same(api.ErrNone)}, {s: "def m():com=skip;", export: "m", e: same(api.ErrNone)}, {s: right, export: "m ", word: long, picks: many, by: negative, many: -1, e: same(api.ErrNone)},
		{s: "export m():com=1;", export: "m", e: same(api.ErrType)}, {s: right + "def d():com=x;", export: "m", e: same(api.ErrName)}, {s: right + "def d():com=x;", export: "o", word: long, picks: many, by: most, many: 9, e: same(api.ErrName)}, {s: right + right, export: "m", e: same(api.ErrTwice)}, {s: right + "def d():int 65=0;", export: "m", e: same(api.ErrRange)}, {s: "export m():cell 2=0;", export: "m", word: long, e: same(api.ErrType)},
		{s: ids + "export m():com=skip;", export: "m", e: same(ok)}, {s: ids + "export m(x:int 2):com=skip;", export: "m", by: negative, many: -1, e: same(limit)}, {s: ids + strings.Replace(params, "skip", "1", 1), export: "m", e: same(api.ErrType)}, {s: params, export: "m", e: same(limit)}, {s: strings.Replace(params, "int 2,", "", 1), export: "m", e: same(ok)}, {s: params, export: "n", e: same(api.ErrNone)},
		// of the word and the picks
		{s: right, export: "m", word: long, e: same(limit)}, {s: right, export: "m", word: long[1:], e: same(ok)}, {s: right, export: "m", picks: many, e: same(limit)}, {s: right, export: "m", picks: many[1:], e: same(ok)}, {s: right, export: "m", word: long, by: negative, many: -1, e: same(limit)}, {s: right, export: "m", picks: many, by: negative, many: -1, e: same(limit)}, {s: endless, export: "m", word: make(api.Word, 1<<20), e: same(limit)},
		// of Talk and Can
		{s: right, export: "m", by: most, many: -1, e: [6]api.Errno{ok, ok, limit, ranged, ok, ok}}, {s: right, export: "m", by: append(most, -1), many: api.MaxCan + 1, e: [6]api.Errno{ok, ok, limit, ranged, ok, ok}}, {s: right, export: "m", by: negative, many: 1 << 40, e: [6]api.Errno{ok, ok, ranged, ranged, ok, ok}}, {s: right, export: "m", w: "0? 0!0", by: []int{-1 << 63}, many: -1 << 63, e: [6]api.Errno{ok, ok, ranged, ranged, ok, ok}}, {s: right, export: "m", by: most[1:], many: api.MaxCan, e: same(ok)},
		{s: right, export: "m", picks: many[1:], many: 1, e: [6]api.Errno{ok, ok, ok, limit, ok, ok}}, {s: right, export: "m", picks: many[1:], many: -1, e: [6]api.Errno{ok, ok, ok, ranged, ok, ok}}, {s: right, export: "m", picks: many[1:], many: 9, e: [6]api.Errno{ok, ok, ok, ranged, ok, ok}}, {s: right, export: "m", picks: many[1 : api.MaxPicks-6], many: 8, e: [6]api.Errno{ok, ok, ok, limit, ok, ok}}, {s: right, export: "m", picks: many[1 : api.MaxPicks-7], many: 8, e: same(ok)}, {s: right, export: "m", w: "1?", picks: many[1:], many: 1, e: [6]api.Errno{ok, ok, ok, limit, ok, ok}},
		// of the execution
		{s: endless, export: "m", e: same(ok)}, {s: endless, export: "m", by: make([]int, 1), e: [6]api.Errno{ok, ok, limit, ok, ok, ok}}, {s: endless, export: "m", w: "0?", e: [6]api.Errno{ok, limit, limit, limit, limit, limit}}, {s: endless, export: "m", w: "0?", by: negative, many: 9, e: [6]api.Errno{ok, limit, ranged, ranged, limit, limit}}, {s: endless, export: "m", w: "0? 0!0 0?", by: most, many: -1, e: [6]api.Errno{ok, limit, limit, ranged, limit, limit}}, {s: endless, export: "m", w: "1? 0!0", e: same(ok)}, {s: endless + "export n():com=skip;", export: "n", w: "0?", e: same(ok)},
		{s: "export m():com=choose skip else while choose true else false do skip;", export: "m", w: "0?", e: same(ok)}, {s: "export m():com=choose skip else while choose true else false do skip;", export: "m", w: "0?", many: 1, e: [6]api.Errno{ok, ok, ok, limit, ok, ok}}, {s: "export m():com=choose skip else while choose true else false do skip;", export: "m", w: "0?", picks: []int{1, 1}, many: 3, e: same(ok)}, {s: "export m():com=choose skip else while choose true else false do skip;", export: "m", w: "0?", picks: []int{0, 1}, many: 3, e: same(ok)},
	} {
		y := said(t, x.s, x.w, x.picks...)
		y.Export = x.export
		if x.word != nil {
			y.Word = x.word
		}
		sameErrors(t, i, y, x.by, x.many, x.e)
	}
	for i, tree := range []api.Tree{{}, {Nodes: []api.TreeNode{{}}}, {Nodes: []api.TreeNode{{Kind: api.ProgramNode, Size: 2}}}, {Nodes: []api.TreeNode{{Kind: api.ProgramNode, Size: 2}, {Kind: 200, Size: 1}}}} {
		sameErrors(t, i, api.Session{T: tree, Export: "m", Word: long, Picks: many}, negative, -1, same(api.ErrForm))
	}
	sameErrors(t, 4, api.Session{T: tooBig, Export: "m"}, negative, -1, same(limit))
}

// sameErrors checks the errors of all functions: those of Arena, Next, Talk, Can, From and Store.
func sameErrors(t *testing.T, i int, x api.Session, by []int, many int, want [6]api.Errno) {
	t.Helper()
	l := all(x, by, many)
	for k, name := range []string{"Arena", "Next", "Talk", "Can", "From", "Store"} {
		if r := l[name]; r.e != want[k] || r.e != api.OK && !r.zero {
			t.Errorf("%d: %s: %v, not %v; zero values: %v", i, name, r.e, want[k], r.zero)
		}
	}
}

// steps returns the text of a term that takes a number of steps, at least 19768: loops in a loop, and some more.
func steps(more int) string {
	return "new b:64:=61 in while !b do(new a:64:=63 in while !a do a:=!a-1;b:=!b-1);skip" + strings.Repeat(";skip", more-19769)
}

// P6.1, R7: an execution takes at most MaxSteps steps, up to where it stands.
func TestSteps(t *testing.T) {
	for _, x := range []struct {
		term, w, want string
		e             api.Errno
	}{
		{steps(api.MaxSteps), "0?", "over 0!0; 1, 20000, 0", api.OK}, {steps(api.MaxSteps), "0? 0!0", "over; 2, 20000, 0", api.OK}, {steps(api.MaxSteps - 1), "0?", "over 0!0; 1, 19999, 0", api.OK}, {steps(api.MaxSteps + 1), "0?", "", api.ErrLimit}, {steps(api.MaxSteps + 1), "0? 0!0", "", api.ErrLimit}, {steps(api.MaxSteps + 1), "", "asks; 0, 0, 0", api.OK},
		{steps(api.MaxSteps-1) + ";u", "0?", "asks 1?; 1, 20000, 0", api.OK}, {steps(api.MaxSteps-1) + ";u", "0? 1? 1!0", "over 0!0; 3, 20000, 0", api.OK}, {steps(api.MaxSteps-1) + ";u;u", "0? 1?", "asks; 2, 20000, 0", api.OK}, {steps(api.MaxSteps-1) + ";u;u", "0? 1? 1!0", "", api.ErrLimit}, {steps(api.MaxSteps-1) + ";u;u", "0? 1? 1!1", "odd; 2, 20000, 0", api.OK}, {steps(api.MaxSteps-1) + ";u;u", "^0? 1? 1!*", "over 0!*; 3, 20000, 0", api.OK}, {steps(api.MaxSteps) + ";u", "0?", "", api.ErrLimit}, {steps(api.MaxSteps-1) + ";hang", "0?", "hangs; 1, 20000, 0", api.OK}, {steps(api.MaxSteps) + ";hang", "0? 1?", "", api.ErrLimit}, {"u;" + steps(api.MaxSteps), "0? 2?", "odd; 1, 2, 0", api.OK},
	} {
		u, e := Next(said(t, "import u:com; export m():com="+x.term+";", x.w))
		if e != x.e || e == api.OK && shown(u) != x.want || e != api.OK && !isNoTurn(u) {
			t.Errorf("%q with %d bytes: %s, %v, not %s, %v", x.w, len(x.term), shown(u), e, x.want, x.e)
		}
	}
}

// P1: arguments in arguments as deep as steps go.
func TestDeep(t *testing.T) {
	s := "def q0(x:int 2):int 2=if x then x else x;"
	for n := range 20 {
		from, to := strconv.Itoa(n), strconv.Itoa(n+1)
		s += "def q" + to + "(x:int 2):int 2=q" + from + "(q" + from + "(x));"
	}
	for last, want := range map[string]api.Errno{"11": api.OK, "12": api.ErrLimit, "20": api.ErrLimit} {
		u, e := Next(said(t, s+"export m():int 2=q"+last+"(hang as 2);", "0?"))
		if e != want || (e == api.OK) != (u.State == api.StateHangs) {
			t.Errorf("q%s: %s, %v", last, shown(u), e)
		}
	}
}

// P2, R4: what is returned shares no memory with what was handed over, and spare room stays as it is; the same is returned again.
func TestOwnMemory(t *testing.T) {
	x := said(t, "import g:(cell 3)->com; export m(c:cell 3):com=new a:3:=1 in(g(a);choose g(c)else c:=2;g(a));", "0? 1? 1.1? 1.1!1 1!0 2=2 2!0 1? 1.1=0 1.1!0", 1, 1)
	whole, picks, nodes := slices.Clone(x.Word), slices.Clone(x.Picks), slices.Clone(x.T.Nodes)
	for n := range len(whole) + 1 {
		room, spare := slices.Clone(whole), []int{1, 1, 9, 9, 9, 9}
		y := api.Session{T: x.T, Export: "m", Word: room[:n], Picks: spare[:2]}
		by := []int{3, 3, 3}
		for k, call := range []func() any{
			func() any { a, _ := Arena(y); return spoil(a.Ids) },
			func() any { u, _ := Next(y); return spoil(u.Moves) },
			func() any { w, u, _ := Talk(y, by[:2]); return [2]any{spoil(w), spoil(u.Moves)} },
			func() any { l, _, _ := Can(y, 2); return spoil(l) },
			func() any { l, _ := From(y); return spoil(l) },
			func() any { l, _ := Store(y); return spoil(l) },
		} {
			if before, again := call(), call(); !reflect.DeepEqual(before, again) {
				t.Errorf("%d moves, call %d: %v, then %v", n, k, before, again)
			}
		}
		if !slices.Equal(room, whole) || !slices.Equal(spare, []int{1, 1, 9, 9, 9, 9}) || !slices.Equal(by, []int{3, 3, 3}) {
			t.Errorf("%d moves: %s, %v, %v", n, texts(room), spare, by)
		}
	}
	if !slices.Equal(x.Picks, picks) || !slices.Equal(x.T.Nodes, nodes) {
		t.Errorf("picks or nodes have changed")
	}
}

// spoil returns the elements of a list one by one, and makes the list another one.
func spoil[T any](l []T) []any {
	var was []any
	for _, x := range l {
		was = append(was, x)
	}
	clear(l[:cap(l)])
	return was
}

// R3: nil and empty lists are the same.
func TestNilAndEmpty(t *testing.T) {
	x := said(t, "import i:int 3; export m():int 3=i+1;", "")
	y := x
	x.Word, x.Picks, y.Word, y.Picks = nil, nil, api.Word{}, []int{}
	for _, z := range []api.Session{x, y} {
		for _, by := range [][]int{nil, {}} {
			sameErrors(t, 0, z, by, 0, [6]api.Errno{})
			w, u, e := Talk(z, by)
			if len(w) > 0 || shown(u) != "asks; 0, 0, 0" || e != api.OK {
				t.Errorf("Talk: %s, %s, %v", texts(w), shown(u), e)
			}
		}
	}
}
