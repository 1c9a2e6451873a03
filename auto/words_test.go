package auto

import (
	"slices"
	"strings"
	"testing"

	"riposte/api"
	"riposte/play"
)

// listing returns the first words of an automaton, with commas between.
func listing(t *testing.T, x api.Auto, many int) string {
	t.Helper()
	l, e := First(x, many)
	if e != api.OK {
		t.Fatalf("First %d of %v: %v", many, x, e)
	}
	if len(l) == 0 {
		return "-"
	}
	var parts []string
	for _, w := range l {
		s, e := play.Text(w)
		if e != api.OK {
			t.Fatalf("Text of %v: %v", w, e)
		}
		parts = append(parts, s)
	}
	return strings.Join(parts, ", ")
}

// P8.6: the first words, in their order: shorter ones first, then by the first move that differs.
func TestFirst(t *testing.T) {
	const star = "0* 1?>1, 1* 1?>1 1!0>0"
	for _, x := range []struct {
		s    string
		many int
		want string
	}{
		{told, 5, "0? 0!0, 0? 1? 1!0 0!1"}, {told, 2, "0? 0!0, 0? 1? 1!0 0!1"}, {told, 1, "0? 0!0"}, {told, 0, "-"}, {told, 200, "0? 0!0, 0? 1? 1!0 0!1"}, {"0", 0, "-"}, {"0", 200, "-"}, {"0*", 200, ""}, {"0*", 0, "-"},
		{star, 0, "-"}, {star, 1, ""}, {star, 6, ", 1?, 1? 1?, 1? 1!0, 1? 1? 1?, 1? 1? 1!0"}, {star, 7, ", 1?, 1? 1?, 1? 1!0, 1? 1? 1?, 1? 1? 1!0, 1? 1!0 1?"},
		{"0 0?>1 1?>1 2?>2, 1 2?>2, 2*", 9, "2?, 0? 2?, 1? 2?"}, {"0* 0!*>0 0!0>0 0!1>0", 14, ", 0!*, 0!0, 0!1, 0!* 0!*, 0!* 0!0, 0!* 0!1, 0!0 0!*, 0!0 0!0, 0!0 0!1, 0!1 0!*, 0!1 0!0, 0!1 0!1, 0!* 0!* 0!*"},
		{"0 1!0>1 2?>2, 1 0?>3, 2 0!0>3, 3* 5?>1", 4, "1!0 0?, 2? 0!0, 1!0 0? 5? 0?, 2? 0!0 5? 0?"},
	} {
		if got := listing(t, parsed(t, x.s), x.many); got != x.want {
			t.Errorf("First %d of %q: %q, not %q", x.many, x.s, got, x.want)
		}
	}
}

// P8.6: the errors of First, at their edges.
func TestFirstLimits(t *testing.T) {
	// The words have 0, 10, 20 .. moves: 41 of them have at most 400.
	tens, e := Star(line(11))
	if e != api.OK || len(tens.Next) != 10 {
		t.Fatalf("Star of a line: %v, %v", tens, e)
	}
	for _, x := range []struct {
		x          api.Auto
		many, size int
		e          api.Errno
	}{
		{tens, 40, 40, api.OK}, {tens, 41, 41, api.OK}, {tens, 42, 0, api.ErrLimit}, {tens, 200, 0, api.ErrLimit}, {tens, 201, 0, api.ErrRange}, {tens, -1, 0, api.ErrRange}, {tens, -1 << 63, 0, api.ErrRange}, {tens, 1<<63 - 1, 0, api.ErrRange}, {tens, 0, 0, api.OK},
		{line(400), 200, 1, api.OK}, {line(400), 201, 0, api.ErrRange}, {fanned(0, 6000), 200, 200, api.OK}, {fanned(0, 200), 200, 200, api.OK}, {fanned(0, 199), 200, 199, api.OK}, {lone(false), 201, 0, api.ErrRange}, {lone(false), -1, 0, api.ErrRange},
		{parsed(t, "0* 0?>0"), 200, 200, api.OK},
	} {
		if l, e := First(x.x, x.many); e != x.e || len(l) != x.size {
			t.Errorf("First %d of an automaton of %d states: %d words, %v", x.many, len(x.x.Next), len(l), e)
		}
	}
	l, _ := First(tens, 41)
	for n, w := range l {
		if len(w) != 10*n {
			t.Errorf("the word %d of the first ones has %d moves", n, len(w))
		}
	}
	// No word has 400 moves, but one 399, and the next one 798.
	m := newMaker()
	m.loop(0, 0, 399, m.state(true), []api.Move{mark})
	y := canon(t, m.Auto)
	if l, e := First(y, 1); e != api.OK || len(l) != 1 || len(l[0]) != 399 {
		t.Errorf("First 1 of long words: %v", e)
	}
	if l, e := First(y, 2); e != api.ErrLimit || len(l) != 0 {
		t.Errorf("First 2 of long words: %d words, %v", len(l), e)
	}
}

// P8.7: how many words have a length.
func TestCount(t *testing.T) {
	fib := parsed(t, "0* 1?>1, 1* 1?>1 1!0>0")
	for n, want := range []int{1, 1, 2, 3, 5, 8, 13, 21, 34, 55, 89} {
		if got, e := Count(fib, n); got != want || e != api.OK {
			t.Errorf("Count of %d: %d, %v, not %d", n, got, e, want)
		}
	}
	for _, x := range []struct {
		s            string
		length, want int
	}{
		{told, 0, 0}, {told, 1, 0}, {told, 2, 1}, {told, 3, 0}, {told, 4, 1}, {told, 5, 0}, {told, 400, 0}, {"0", 0, 0}, {"0", 400, 0}, {"0*", 0, 1}, {"0*", 1, 0}, {"0* 0?>0", 400, 1}, {"0 1?>1, 1 1?>0 2?>0 3?>2, 2*", 8, 8},
	} {
		if got, e := Count(parsed(t, x.s), x.length); got != x.want || e != api.OK {
			t.Errorf("Count of %d in %q: %d, %v, not %d", x.length, x.s, got, e, x.want)
		}
	}
}

// P8.7: the errors of Count, at their edges.
func TestCountLimits(t *testing.T) {
	tens := newMaker()
	tens.fan(0, 0, 10, 0)
	tens.Final[0] = true
	// Words of 12 of ten letters are as many as there may be; one more is of signs.
	more := func(signs bool) api.Auto {
		m := newMaker()
		at, end := 0, m.state(true)
		for range 11 {
			to := m.state(false)
			m.fan(at, 0, 10, to)
			at = to
		}
		m.fan(at, 0, 10, end)
		if signs {
			m.edge(m.path(0, sign, 11), sign, end)
		}
		return canon(t, m.Auto)
	}
	const most = 1000000000000
	for i, x := range []struct {
		x            api.Auto
		length, want int
		e            api.Errno
	}{
		{tens.Auto, 12, most, api.OK}, {tens.Auto, 13, 0, api.ErrLimit}, {tens.Auto, 400, 0, api.ErrLimit}, {tens.Auto, 401, 0, api.ErrRange}, {tens.Auto, -1, 0, api.ErrRange}, {tens.Auto, 1<<63 - 1, 0, api.ErrRange}, {tens.Auto, -1 << 63, 0, api.ErrRange},
		{more(false), 12, most, api.OK}, {more(true), 12, 0, api.ErrLimit}, {more(true), 11, 0, api.OK}, {lone(false), 401, 0, api.ErrRange},
		{fanned(0, 6000), 1, 6000, api.OK},
	} {
		if n, e := Count(x.x, x.length); n != x.want || e != x.e {
			t.Errorf("%d: Count of %d: %d, %v, not %d, %v", i, x.length, n, e, x.want, x.e)
		}
	}
	// Many ways that have no end at this length do not count: the only word of the length 400 is one of marks.
	m := newMaker()
	end := m.state(true)
	m.edge(0, mark, 0)
	m.edge(0, lead, end)
	other := m.state(false)
	m.edge(0, sign, other)
	m.fan(other, 0, 9, other)
	long := other
	for range 20 {
		to := m.state(false)
		m.edge(long, hush, to)
		long = to
	}
	m.edge(long, hush, end)
	y := canon(t, m.Auto)
	if n, e := Count(y, 20); n != 1 || e != api.OK {
		t.Errorf("Count of 20: %d, %v", n, e)
	}
	if n, e := Count(y, 400); n != 0 || e != api.ErrLimit {
		t.Errorf("Count of 400: %d, %v", n, e)
	}
	// Of many ways to a state that is not final only some go on in time.
	if n, e := Count(canon(t, api.Auto{Next: [][]api.Edge{manyLoops(0, 30, 1), {{Move: mark, To: 2}}, nil}, Final: []bool{false, false, true}}), 2); n != 1 || e != api.OK {
		t.Errorf("Count of 2: %d, %v", n, e)
	}
}

// manyLoops returns edges by letters that stay, and one by a step that leads on.
func manyLoops(stay, many, on int) []api.Edge {
	l := []api.Edge{{Move: step, To: on}}
	for n := range many {
		l = append(l, api.Edge{Move: letter(n), To: stay})
	}
	return l
}

// P8.8: the length of the longest word.
func TestLongest(t *testing.T) {
	for _, x := range []struct {
		x    api.Auto
		n    int
		ends bool
	}{
		{parsed(t, told), 4, true}, {lone(false), 0, true}, {lone(true), 0, true}, {line(2), 1, true}, {line(400), 399, true}, {fanned(0, 6000), 1, true}, {only(t, "1? 1? 1?, 2?"), 3, true}, {only(t, ", 1?"), 1, true},
		{parsed(t, "0* 1?>1, 1* 1?>1 1!0>0"), 0, false}, {parsed(t, "0* 0?>0"), 0, false}, {parsed(t, "0 0?>0 1?>1, 1*"), 0, false}, {parsed(t, "0 0?>1, 1 1?>2 2?>1, 2*"), 0, false}, {looped(t, 0, 399, []api.Move{mark}), 0, false}, {looped(t, 398, 1, []api.Move{mark}), 0, false},
	} {
		if n, ends, e := Longest(x.x); n != x.n || ends != x.ends || e != api.OK {
			t.Errorf("Longest of an automaton of %d states: %d, %v, %v", len(x.x.Next), n, ends, e)
		}
	}
}

// R4: words that First returns share no memory.
func TestFirstOwnMemory(t *testing.T) {
	x := parsed(t, "0* 1?>1, 1* 1?>1 1!0>0")
	l, _ := First(x, 60)
	again, _ := First(x, 60)
	for i := range l {
		for j := range l[i] {
			l[i][j] = api.Move{Id: -1}
		}
		l[i] = append(l[i], api.Move{Id: -2})
		for k := i + 1; k < len(l); k++ {
			if !slices.Equal(l[k], again[k]) {
				t.Fatalf("the words %d and %d share memory", i, k)
			}
		}
	}
	third, _ := First(x, 60)
	if !slices.EqualFunc(again, third, func(a, b api.Word) bool { return slices.Equal(a, b) }) {
		t.Errorf("First shares memory with what it was handed")
	}
}
