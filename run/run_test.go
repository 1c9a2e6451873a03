package run

import (
	"slices"
	"testing"

	"riposte/api"
	"riposte/arena"
	"riposte/check"
)

// P6.1: the arena is that of the export, without any execution.
func TestArena(t *testing.T) {
	for _, x := range []struct{ s, export, w, want string }{
		{"import i:int 3; export m(c:cell 2):int 5=i as 5;", "m", "", "int 5; int 3; cell 2"}, {"import i:int 3; export m(c:cell 2):int 5=i as 5;", "m", "^", "int 5; int 3; cell 2; jumps"}, {"export m():com=while true do skip;", "m", "0?", "int 1"}, {"export m():com=skip; export n(k:(bool,cell 64)->com):bool=true; import f:(int 7)->int 8;", "n", "^9? 9?", "int 2; (int 7) -> int 8; (int 2, cell 64) -> int 1; jumps"},
	} {
		y := said(t, x.s, x.w)
		y.Export = x.export
		want, e := arena.Read(x.want)
		if a, f := Arena(y); e != api.OK || f != api.OK || !sameArena(a, want) {
			t.Errorf("%s: %v, %v, not %v", x.s, a, f, want)
		}
	}
}

// P6.2: the word goes on by numbers, as long as it is the other one's turn.
func TestTalk(t *testing.T) {
	const plus = "import i:int 3; export m():int 3=i+1;"
	const loop = "import i:bool; export m():com=while i do skip;"
	const cell = "import g:(cell 3)->com; export m(c:cell 3):com=g(c);g(c);"
	const jump = "import f:(com)->com; export m():com=label l in f(jump l)else skip;"
	for _, x := range []struct {
		s, word string
		by      []int
		want    string
		turn    string
	}{
		{plus, "", nil, "", "asks; 0, 0, 0"}, {plus, "", []int{0}, "0? 1?", "asks 1?; 1, 2, 0"}, {plus, "", []int{1<<63 - 1}, "0? 1?", "asks 1?; 1, 2, 0"}, {plus, "0?", nil, "0? 1?", "asks 1?; 1, 2, 0"}, {plus, "0? 1?", nil, "0? 1?", "asks; 2, 2, 0"}, {plus, "0?", []int{1}, "0? 1? 1!1 0!2", "over 0!2; 3, 3, 0"}, {plus, "0? 1?", []int{4}, "0? 1? 1!1 0!2", "over 0!2; 3, 3, 0"}, {plus, "0? 1? 1!2", []int{4}, "0? 1? 1!2 0!0", "over 0!0; 3, 3, 0"}, {plus, "0? 1? 1!2 0!0", []int{4, 5}, "0? 1? 1!2 0!0", "over; 4, 3, 0"}, {plus, "", []int{0, 2, 1, 1}, "0? 1? 1!2 0!0", "over 0!0; 3, 3, 0"}, {plus, "^", []int{0, 4}, "0? 1? 1!* 0!*", "over 0!*; 3, 2, 0"}, {plus, "^", []int{0, 5}, "0? 1? 1!0 0!1", "over 0!1; 3, 3, 0"},
		{plus, "1?", []int{0}, "1?", "odd; 0, 0, 0"}, {plus, "0? 0!0", []int{0}, "0? 0!0", "odd; 1, 2, 0"}, {plus, "0? 1? 1!0 0!1 0?", []int{0}, "0? 1? 1!0 0!1 0?", "odd; 4, 3, 0"},
		{loop, "", []int{0, 1, 3, 5, 2}, "0? 1? 1!1 1? 1!1 1? 1!1 1? 1!0 0!0", "over 0!0; 9, 8, 0"}, {cell, "", []int{0, 1, 0, 8, 0, 1, 0}, "0? 1? 1.1? 2? 2!0 1.1!0 1.1=1 2=1 2!0 1.1!0 1.1? 2? 2!0 1.1!0", "asks 1.1!0; 13, 2, 0"},
		{jump, "", []int{0, 1, 7}, "0? 1? 1.1? 1.1!* 1!* 0!0", "over 0!0; 5, 4, 0"}, {jump, "^", []int{0, 2, 7, 9}, "0? 1? 1.1? 1.1!* 1!* 0!0", "over 0!0; 5, 4, 0"}, {"export m():com=hang;", "", []int{3, 3}, "0?", "hangs; 1, 1, 0"},
	} {
		w, u, e := Talk(said(t, x.s, x.word), x.by)
		if texts(w) != x.want || shown(u) != x.turn || e != api.OK {
			t.Errorf("%s after %q by %v: %s, %s, %v, not %s, %s", x.s, x.word, x.by, texts(w), shown(u), e, x.want, x.turn)
		}
	}
	w, u, e := Talk(said(t, "import i:bool; export m():bool=choose i else choose true else i;", "", 1, 1), []int{0, 0})
	if texts(w) != "0? 1? 1!0 0!0" || shown(u) != "over 0!0; 3, 3, 2" || e != api.OK {
		t.Errorf("with picks: %s, %s, %v", texts(w), shown(u), e)
	}
}

// P6.2, R7: at most MaxTalk numbers, and words of at most MaxWord moves.
func TestTalkLimits(t *testing.T) {
	loop := said(t, "import i:bool; export m():com=while i do skip;", "")
	w, u, e := Talk(loop, append(make([]int, 1), slices.Repeat([]int{1}, api.MaxTalk-1)...))
	if len(w) != 2*api.MaxTalk || u.State != api.StateAsks || e != api.OK {
		t.Errorf("%d numbers: %d moves, %s, %v", api.MaxTalk, len(w), shown(u), e)
	}
	whole := append(word(t, "0? 1?"), word(t, again(api.MaxWord/2-1, "1!1 1?"))...)
	for _, x := range []struct{ moves, numbers, want int }{{api.MaxWord, 0, api.MaxWord}, {api.MaxWord, 1, 0}, {api.MaxWord - 1, 0, api.MaxWord}, {api.MaxWord - 1, 1, 0}, {api.MaxWord - 2, 1, api.MaxWord}, {api.MaxWord - 2, 2, 0}, {api.MaxWord - 40, 20, api.MaxWord}, {api.MaxWord - 40, 21, 0}} {
		loop.Word = whole[:x.moves]
		w, u, e := Talk(loop, slices.Repeat([]int{1}, x.numbers))
		switch {
		case x.want > 0 && (!slices.Equal(w, whole[:x.want]) || u.State != api.StateAsks || e != api.OK):
			t.Errorf("%d moves, %d numbers: %d moves, %s, %v", x.moves, x.numbers, len(w), shown(u), e)
		case x.want == 0 && (len(w) > 0 || !isNoTurn(u) || e != api.ErrLimit):
			t.Errorf("%d moves, %d numbers: %v, %s, %v", x.moves, x.numbers, w, shown(u), e)
		}
	}
	loop.Word = whole[:api.MaxWord]
	if u := next(t, loop); u.State != api.StateAsks || u.At != api.MaxWord {
		t.Errorf("Next of %d moves: %s", api.MaxWord, shown(u))
	}
}

// P6.3: the next moves with any picks behind those of the session.
func TestCan(t *testing.T) {
	const bits = "import i:int 4; export m():int 4=(choose 0 else 1)+(choose 0 else(choose 2 else(hang;0)));"
	const asks = "import i:int 4; import c:cell 2; export m():int 4=choose i else(c:=1;choose 3 else 1);"
	for _, x := range []struct {
		s, word string
		picks   []int
		many    int
		want    string
		hangs   bool
	}{
		{bits, "", nil, 3, "", false}, {bits, "0?", nil, 0, "0!0", false}, {bits, "0?", nil, 1, "0!0 0!1", false}, {bits, "0?", nil, 2, "0!0 0!1 0!2 0!3", false}, {bits, "0?", nil, 3, "0!0 0!1 0!2 0!3", true}, {bits, "0?", nil, api.MaxCan, "0!0 0!1 0!2 0!3", true}, {bits, "0?", []int{1, 3}, 1, "0!3", true}, {bits, "0?", []int{0, -1, 5}, 2, "", true}, {bits, "0?", []int{0, 0, 5}, 2, "0!0", false}, {bits, "0? 0!2", nil, 3, "", false}, {bits, "0? 0!2 0!2", nil, 3, "", false}, {bits, "1?", nil, 3, "", false}, {bits, "0? 1?", nil, 3, "", false},
		{asks, "0?", nil, 1, "1? 2=1", false}, {asks, "0? 2=1", nil, 1, "", false}, {asks, "0? 2=1 2!0", nil, 2, "0!1 0!3", false}, {asks, "0? 1? 1!2", nil, 2, "0!2", false},
		{"import f:(com)->com; import b:bool; export m(c:cell 3):bool=label l in(f(choose jump l else choose c:=2 else choose c:=1 else choose skip else hang);b)else true;", "0? 1? 1.1?", nil, 4, "1.1!* 1.1!0 3=1 3=2", true}, {"export m():com=while choose true else false do skip;", "0?", slices.Repeat([]int{1}, api.MaxPicks-api.MaxCan), api.MaxCan, "0!0", false},
		{"export m():int 2=choose 1 else 0;", "0?", nil, 1, "0!0 0!1", false}, {"export m():int 2=choose 1 else 1;", "0?", nil, 4, "0!1", false}, {"export m():com=hang;", "0?", nil, 0, "", true}, {"export m():com=hang;", "0? 0!0", nil, 2, "", false},
	} {
		l, hangs, e := Can(said(t, x.s, x.word, x.picks...), x.many)
		if texts(l) != x.want || hangs != x.hangs || e != api.OK {
			t.Errorf("%s after %q with %v and %d: %s, %v, %v, not %s, %v", x.s, x.word, x.picks, x.many, texts(l), hangs, e, x.want, x.hangs)
		}
	}
}

// P6.4: from which nodes moves come. The @ stand before the nodes.
func TestFrom(t *testing.T) {
	for _, x := range []struct {
		s, word string
		want    []int // the number of a mark, or -1 of the other one's moves
	}{
		{"export m():com=@skip;", "", nil}, {"export m():com=@skip;", "0?", []int{-1, 0}}, {"export m():com=@skip;", "0? 0!0", []int{-1, 0}}, {"export m():com=@skip;", "0? 0!0 0!0", []int{-1, 0}}, {"export m():com=@hang;", "0?", []int{-1}}, {"export m():com=@hang;", "0? 0!0", []int{-1}}, {"export m():com=@hang;", "0!0", nil},
		{"import i:int 3; export m():int 3=@i;", "0? 1? 1!2", []int{-1, 0, -1, 0}}, {"import i:int 3; export m():int 3=@i@+@i;", "0? 1? 1!2 1? 1!2", []int{-1, 0, -1, 2, -1, 1}}, {"import i:int 3; export m():int 3=@i@+@i;", "0? 1? 1!3 1?", []int{-1, 0}}, {"import i:int 3; export m():int 3=@i@+@i;", "0? 1? 1!1 0!0", []int{-1, 0, -1}}, {"import c:cell 3; export m():int 3=@c:=1@;@!c;", "0? 1=1 1!0 1? 1!2", []int{-1, 0, -1, 2, -1, 1}},
		// calls and their arguments
		{"import f:(com)->com; import u:com; export m():com=@f(@u);", "0? 1? 1.1? 2? 2!0 1.1!0 1!0", []int{-1, 0, -1, 1, -1, 1, -1, 0}}, {"import f:(com)->com; import u:com; export m():com=@f(@u@;@f(@u));", "0? 1? 1.1? 2? 2!0 1? 1.1? 2? 2!0 1.1!0 1!0 1.1!0", []int{-1, 0, -1, 1, -1, 3, -1, 4, -1, 4, -1, 2}}, {"import h:(int 4,cell 3)->int 4; import c:cell 3; export m():int 4=@h(@2,@c);", "0? 1? 1.2? 2? 2!1 1.2!1 1.1? 1.1!2 1.2=2 2=2 2!0", []int{-1, 0, -1, 2, -1, 2, -1, 1, -1, 2, -1, 2}}, {"import g:(cell 3)->com; export m():com=@new a:3:=0 in @g(@a);", "0? 1? 1.1=1 1.1!0 1.1?", []int{-1, 1, -1, 2, -1, 2}}, {"import g:(cell 3)->com; import i:int 3; import c:cell 3; export m():com=@g(@{get @i;put v.@c:=v});", "0? 1? 1.1? 2? 2!1 1.1!1 1.1=2 3=2 3!0", []int{-1, 0, -1, 2, -1, 1, -1, 3, -1, 1}},
		// definitions
		{"import i:int 3; def d():int 3=@i; export m():int 3=@d;", "0? 1? 1!0", []int{-1, 0, -1, 1}}, {"import i:int 3; def d(x:int 3):int 3=x; export m():int 3=@d(@i);", "0? 1? 1!0", []int{-1, 1, -1, 0}}, {"import g:(cell 3)->com; def d(k:cell 3):com=@g(@k); export m(c:cell 3):com=@d(c);", "0? 1? 1.1? 2? 2!0 1.1!0 1!0", []int{-1, 0, -1, 1, -1, 1, -1, 2}}, {"import c:cell 3; def d(k:cell 3):com=@k:=@!k; export m():com=@d(c);", "0? 1? 1!1 1=1 1!0", []int{-1, 1, -1, 0, -1, 2}}, {"import f:(com)->com; import u:com; def d(k:(com)->com,x:com):com=@k(@x); export m():com=@d(f,@u);", "0? 1? 1.1? 2? 2!0 1.1!0 1!0", []int{-1, 0, -1, 3, -1, 1, -1, 2}}, {"import f:(com)->com; import u:com; def d(k:(com)->com):com=k(@u); export m():com=@d(fn(z)@f(@z));", "0? 1? 1.1? 2? 2!0 1.1!0 1!0", []int{-1, 2, -1, 0, -1, 3, -1, 1}}, {"import i:int 3; def d(k:cell 3):int 3=!k; export m():int 3=@d({get @i;put v.skip});", "0? 1? 1!1", []int{-1, 1, -1, 0}},
		// jumps
		{"import f:(com)->com; export m():com=@label l in @f(@jump l)else skip;", "0? 1? 1.1? 1.1!* 1!*", []int{-1, 1, -1, 2, -1, 0}}, {"import f:(com)->com; import u:com; export m():com=@f(@u);", "^0? 1? 1.1? 2? 2!* 1.1!* 1!*", []int{-1, 0, -1, 1, -1, 1, -1, 0}}, {"import f:(com)->com; export m():com=@label l in @f(@jump l)else skip;", "0? 1? 1.1? 1.1!* 1!0", []int{-1, 1, -1, 2}},
	} {
		y, marks := marked(t, x.s, x.word)
		var want []int
		for _, n := range x.want {
			if n >= 0 {
				n = marks[n]
			}
			want = append(want, n)
		}
		if l, e := From(y); !slices.Equal(l, want) || e != api.OK {
			t.Errorf("%s after %q: %v, %v, not %v", x.s, x.word, l, e, want)
		}
	}
}

// P6.5: the cells that there are. The @ stand before the NewNodes.
func TestStore(t *testing.T) {
	const two = "import u:com; export m():int 3=@new a:3:=1 in(u;a:=2;@new b:2:=1 in(u;a:=0;b:=0;u);!a);"
	const deep = "import u:com; import i:int 3; def d(x:com,n:int 3):com=@new a:3:=2 in(a:=!a-n;x;u); export m():com=d(d(skip,0),1);"
	const out = "import f:(com)->com; export m():int 3=@new a:3:=1 in label l in @new b:3:=2 in(f(@new c:3:=0 in(c:=1;f(skip);jump l));0)else(f(skip);!a);"
	const notice = "import f:(com)->com; export m():com=@new a:3:=0 in(label l in notice a:=1 in f(notice a:=2 in jump l)else skip;f(skip));"
	const lost = "import f:(com)->com; import u:com; export m():com=@new a:3:=0 in notice a:=1 in f(notice a:=2 in f(u));"
	type seen = [2]int // the number of a mark, and a value
	for _, x := range []struct {
		s, word string
		want    []seen
	}{
		{two, "", nil}, {two, "1?", nil}, {two, "0?", []seen{{0, 1}}}, {two, "0? 1?", []seen{{0, 1}}}, {two, "0? 1? 1!1", []seen{{0, 1}}}, {two, "0? 0!0", []seen{{0, 1}}}, {two, "0? 1? 1!0", []seen{{0, 2}, {1, 1}}}, {two, "0? 1? 1!0 1? 1!0", []seen{{0, 0}, {1, 0}}}, {two, "0? 1? 1!0 1? 1!0 1? 1!0", nil}, {two, "0? 1? 1!0 1? 1!0 1? 1!0 0!0", nil}, {two, "0? 1? 1!0 1? 1!0 1? 1!0 0!2", nil}, {two, "^0? 1? 1!0 1? 1!*", nil},
		{deep, "0?", []seen{{0, 1}, {0, 2}}}, {deep, "0? 1? 1!0", []seen{{0, 1}}}, {deep, "0? 1? 1!0 1? 1!0", nil},
		{out, "0?", []seen{{0, 1}, {1, 2}}}, {out, "0? 1? 1.1?", []seen{{0, 1}, {1, 2}, {2, 1}}}, {out, "0? 1? 1.1? 1? 1!0", []seen{{0, 1}, {1, 2}}}, {out, "0? 1? 1.1? 1? 1!0 1.1!*", []seen{{0, 1}, {1, 2}}}, {out, "0? 1? 1.1? 1? 1!0 1.1!* 1!*", []seen{{0, 1}}},
		{notice, "0?", []seen{{0, 0}}}, {notice, "0? 1? 1.1?", []seen{{0, 2}}}, {notice, "0? 1? 1.1? 1.1!* 1!*", []seen{{0, 1}}}, {notice, "0? 1? 1!0", []seen{{0, 0}}},
		{lost, "^0? 1? 1.1? 1? 1.1? 2?", []seen{{0, 0}}}, {lost, "^0? 1? 1.1? 1? 1.1? 2? 2!*", []seen{{0, 0}}}, {lost, "^0? 1? 1.1? 1? 1.1? 2? 2!* 1.1!* 1!*", []seen{{0, 2}}}, {lost, "^0? 1? 1.1? 1? 1.1? 2? 2!* 1.1!* 1!* 1.1!*", []seen{{0, 2}}}, {lost, "^0? 1? 1.1? 1? 1.1? 2? 2!* 1.1!* 1!* 1.1!* 1!*", nil}, {lost, "^0? 1? 1!*", nil},
		{"export m():com=@new a:2:=1 in(a:=0;@new b:5:=4 in hang);", "0?", []seen{{0, 0}, {1, 4}}}, {"export m():com=@new a:2:=1 in(a:=0;@new b:5:=4 in hang);", "0? 0!0", []seen{{0, 0}, {1, 4}}}, {"import g:(cell 3)->com; export m():com=@new a:3:=1 in g({get !a;put v.a:=v});", "0? 1? 1.1=2 1.1!0 1.1? 1.1!2", []seen{{0, 2}}}, {"import g:(cell 3)->com; export m():com=@new a:3:=1 in g({get(@new b:2:=1 in !a);put v.@new c:64:=63 in(hang;a:=v)});", "0? 1? 1.1?", []seen{{0, 1}}}, {"import g:(cell 3)->com; export m():com=@new a:3:=1 in g({get(@new b:2:=1 in !a);put v.@new c:64:=63 in(hang;a:=v)});", "0? 1? 1.1=0", []seen{{0, 1}, {2, 63}}},
	} {
		y, marks := marked(t, x.s, x.word)
		var want []api.CellSeen
		for _, c := range x.want {
			want = append(want, api.CellSeen{Node: marks[c[0]], N: c[1]})
		}
		if l, e := Store(y); !slices.Equal(l, want) || e != api.OK {
			t.Errorf("%s after %q: %v, %v, not %v", x.s, x.word, l, e, want)
		}
	}
	y, marks := marked(t, "import u:com; export m():com=@new a:3:=1 in choose u else @new b:2:=1 in u;", "0?")
	y.Picks = []int{1}
	if l, e := Store(y); !slices.Equal(l, []api.CellSeen{{Node: marks[0], N: 1}, {Node: marks[1], N: 1}}) || e != api.OK {
		t.Errorf("with a pick: %v, %v", l, e)
	}
	if n, e := check.Program(y.T); n != 0 || e != api.OK {
		t.Errorf("Program: %d, %v", n, e)
	}
}
