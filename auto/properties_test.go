package auto

import (
	"math/rand/v2"
	"slices"
	"testing"

	"riposte/api"
	"riposte/arena"
	"riposte/play"
)

// ofBook checks that an operation came to the canonical automaton of what the book says.
func ofBook(t *testing.T, name string, b book, x api.Auto, e api.Errno) {
	t.Helper()
	if e != api.OK || !isCanonicalByBook(x) || !b.says(x) || Check(x) != api.OK {
		t.Fatalf("%s: %v, %v, of %v", name, x, e, b)
	}
}

// operations checks all operations on two automata against the book.
func operations(t *testing.T, x, y api.Auto, w api.Word, ids []int) {
	t.Helper()
	z, e := Union(x, y)
	ofBook(t, "Union", unionBook(x, y), z, e)
	z, e = Both(x, y)
	ofBook(t, "Both", bothBook(x, y), z, e)
	z, e = Without(x, y)
	ofBook(t, "Without", withoutBook(x, y), z, e)
	z, e = Chain(x, y)
	ofBook(t, "Chain", chainBook(x, y), z, e)
	z, e = Star(x)
	ofBook(t, "Star", starBook(x), z, e)
	z, e = Hide(x, ids)
	ofBook(t, "Hide", hideBook(x, ids), z, e)
	z, e = Rest(x, w)
	ofBook(t, "Rest", restBook(x, w), z, e)
	if is, e := Has(x, w); is != bookOf(x).has(w) || e != api.OK {
		t.Fatalf("Has of %v and %v: %v, %v", x, w, is, e)
	}
}

// P8.2: random raw automata become what the book says.
func TestCanonAgainstBook(t *testing.T) {
	r := source(1)
	for range 6000 {
		x := anyRaw(r, 7, 1+r.IntN(len(some)))
		y, e := Canon(x)
		ofBook(t, "Canon", bookOf(x), y, e)
	}
}

// P8.1: random automata, most of them nearly canonical, have the error that the book says.
func TestCheckAgainstBook(t *testing.T) {
	r := source(2)
	wrong := 0
	for range 6000 {
		x := anyAuto(r)
		if r.IntN(6) == 0 {
			x = reordered(x, r.Perm(len(x.Next)))
		}
		for range r.IntN(3) {
			x = spoiled(r, x)
		}
		want := api.OK
		if !isCanonicalByBook(x) {
			want = api.ErrForm
			wrong++
		}
		if e := Check(x); e != want {
			t.Fatalf("Check of %v: %v, not %v", x, e, want)
		}
	}
	if wrong < 1000 || wrong > 5000 {
		t.Errorf("%d of 6000 are not canonical", wrong)
	}
}

// spoiled returns an automaton with a random change.
func spoiled(r *rand.Rand, x api.Auto) api.Auto {
	x = twin(x)
	p := r.IntN(len(x.Next))
	switch l := x.Next[p]; r.IntN(6) {
	case 0:
		x.Final[p] = !x.Final[p]
	case 1:
		x.Next[p] = append(l, api.Edge{Move: some[r.IntN(len(some))], To: r.IntN(len(x.Next)+2) - 1})
	case 2:
		if len(l) > 0 {
			l[r.IntN(len(l))].To = r.IntN(len(x.Next))
		}
	case 3:
		if len(l) > 0 {
			l[r.IntN(len(l))].Move = some[r.IntN(len(some))]
		}
	case 4:
		q := r.IntN(len(x.Next))
		x.Next[p], x.Next[q] = x.Next[q], x.Next[p]
	case 5:
		x.Next = append(x.Next, slices.Clone(l))
		x.Final = append(x.Final, x.Final[p])
	}
	return x
}

// reordered returns an automaton in which the state p has the number order[p].
func reordered(x api.Auto, order []int) api.Auto {
	y := api.Auto{Next: make([][]api.Edge, len(x.Next)), Final: make([]bool, len(x.Final))}
	for p, l := range x.Next {
		for _, e := range l {
			y.Next[order[p]] = append(y.Next[order[p]], api.Edge{Move: e.Move, To: order[e.To]})
		}
		y.Final[order[p]] = x.Final[p]
	}
	return y
}

// P8.4, P8.5: operations on random automata come to what the book says.
func TestOperationsAgainstBook(t *testing.T) {
	r := source(3)
	for range 3000 {
		x, y := anyAuto(r), anyAuto(r)
		var ids []int
		for range r.IntN(4) {
			ids = append(ids, r.IntN(5)-1)
		}
		operations(t, x, y, anyWord(r, x), ids)
	}
}

// P8.10: Canon's result is canonical, and its own; states in another order, states and edges twice, and words in another form come to the same.
func TestOneForm(t *testing.T) {
	r := source(4)
	for range 3000 {
		x := anyRaw(r, 6, 1+r.IntN(len(some)))
		y := canon(t, x)
		order := r.Perm(len(x.Next))
		i := slices.Index(order, 0)
		order[0], order[i] = 0, order[0]
		for _, z := range []api.Auto{y, reordered(x, order), doubled(r, x)} {
			if u, e := Canon(z); e != api.OK || !alike(u, y) {
				t.Fatalf("Canon of %v: %v, %v, not %v", z, u, e, y)
			}
		}
	}
}

// doubled returns an automaton with states twice, of which one or the other is led to, or both, and with edges twice, in any order.
func doubled(r *rand.Rand, x api.Auto) api.Auto {
	m := len(x.Next)
	y := api.Auto{Final: slices.Concat(x.Final, x.Final)}
	for p := range 2 * m {
		var l []api.Edge
		for _, e := range x.Next[p%m] {
			for range 1 + r.IntN(3) {
				l = append(l, api.Edge{Move: e.Move, To: e.To + m*r.IntN(2)})
			}
		}
		r.Shuffle(len(l), func(i, j int) { l[i], l[j] = l[j], l[i] })
		y.Next = append(y.Next, l)
	}
	return y
}

// must returns an automaton that comes without an error.
func must(t *testing.T) func(x api.Auto, e api.Errno) api.Auto {
	return func(x api.Auto, e api.Errno) api.Auto {
		t.Helper()
		if e != api.OK {
			t.Fatalf("an operation: %v", e)
		}
		return x
	}
}

// has reports whether a word is of an automaton.
func has(t *testing.T, x api.Auto, w api.Word) bool {
	t.Helper()
	is, e := Has(x, w)
	if e != api.OK {
		t.Fatalf("Has of %v and %v: %v", x, w, e)
	}
	return is
}

// P8.11: unions, what two have in common, and differences.
func TestSetsOfWords(t *testing.T) {
	r := source(5)
	is := must(t)
	for range 1500 {
		x, y := anyAuto(r), anyAuto(r)
		u, v, d := is(Union(x, y)), is(Both(x, y)), is(Without(x, y))
		for range 8 {
			w := anyWord(r, []api.Auto{x, y}[r.IntN(2)])
			a, b := has(t, x, w), has(t, y, w)
			if has(t, u, w) != (a || b) || has(t, v, w) != (a && b) || has(t, d, w) != (a && !b) {
				t.Fatalf("%v and %v have %v: %v, %v", x, y, w, a, b)
			}
		}
		if !alike(u, is(Union(y, x))) || !alike(v, is(Both(y, x))) || !alike(x, is(Union(x, x))) || !alike(x, is(Both(x, x))) || !alike(u, is(Union(u, y))) || !alike(v, is(Both(v, x))) || !alike(x, is(Union(v, d))) || !alike(lone(false), is(Without(x, x))) {
			t.Fatalf("sets of %v and %v", x, y)
		}
	}
}

// P8.12: words of chains can be cut, those of stars as well; stars of stars, and chains in any order.
func TestChainsOfWords(t *testing.T) {
	r := source(6)
	is := must(t)
	for range 1500 {
		x, y, z := anyAuto(r), anyAuto(r), anyAuto(r)
		c, s := is(Chain(x, y)), is(Star(x))
		for range 8 {
			w := slices.Concat(anyWord(r, x), anyWord(r, y))
			if got := has(t, c, w); got != isChained(t, x, y, w) {
				t.Fatalf("the chain of %v and %v has %v: %v", x, y, w, got)
			}
			w = slices.Concat(anyWord(r, x), anyWord(r, x))
			if got := has(t, s, w); got != isStarred(t, x, w) {
				t.Fatalf("the star of %v has %v: %v", x, w, got)
			}
		}
		if !alike(s, is(Star(s))) || !alike(is(Chain(c, z)), is(Chain(x, is(Chain(y, z))))) {
			t.Fatalf("chains and stars of %v, %v and %v", x, y, z)
		}
	}
}

// isChained reports whether a word can be cut in two, isStarred whether it is empty or can be cut into words.
func isChained(t *testing.T, x, y api.Auto, w api.Word) bool {
	for n := range len(w) + 1 {
		if has(t, x, w[:n]) && has(t, y, w[n:]) {
			return true
		}
	}
	return false
}

func isStarred(t *testing.T, x api.Auto, w api.Word) bool {
	if len(w) == 0 {
		return true
	}
	for n := range len(w) {
		if has(t, x, w[:n+1]) && isStarred(t, x, w[n+1:]) {
			return true
		}
	}
	return false
}

// P8.13: words with moves left out are of Hide, and its words come of such; two lists one after the other are both together.
func TestHidden(t *testing.T) {
	r := source(7)
	is := must(t)
	for range 1500 {
		x := anyAuto(r)
		a, b := []int{r.IntN(3)}, []int{r.IntN(4) - 1, r.IntN(3)}
		y := is(Hide(x, a))
		l, e := First(x, 20)
		if e != api.OK {
			t.Fatalf("First of %v: %v", x, e) // no word among the first ones of so few states is too long
		}
		var left []api.Word
		for _, w := range l {
			w = slices.DeleteFunc(slices.Clone(w), func(m api.Move) bool { return m.Id == a[0] })
			left = append(left, w)
			if !has(t, y, w) {
				t.Fatalf("Hide of %v in %v has not %v", a, x, w)
			}
		}
		if len(l) < 20 && !alike(y, is(Only(left))) {
			t.Fatalf("Hide of %v in %v: %v, not %v", a, x, y, left)
		}
		if !alike(is(Hide(y, b)), is(Hide(x, slices.Concat(a, b)))) || !alike(y, is(Hide(y, a))) {
			t.Fatalf("Hide of %v and %v in %v", a, b, x)
		}
	}
}

// P8.14: a word goes on with just the words of Rest; those that begin with a move are this move and the words of its Rest.
func TestWhatFollows(t *testing.T) {
	r := source(8)
	is := must(t)
	for range 1500 {
		x := anyAuto(r)
		w := anyWord(r, x)
		y := is(Rest(x, w))
		for range 4 {
			v := anyWord(r, []api.Auto{x, y}[r.IntN(2)])
			if has(t, y, v) != has(t, x, slices.Concat(w, v)) {
				t.Fatalf("Rest of %v and %v has %v: %v", x, w, v, has(t, y, v))
			}
		}
		whole := lone(false)
		if has(t, x, nil) {
			whole = lone(true)
		}
		for _, m := range some {
			begun := is(Chain(is(Only([]api.Word{{m}})), is(Rest(x, api.Word{m}))))
			whole = is(Union(whole, begun))
		}
		if !alike(whole, x) {
			t.Fatalf("the words of %v by their first moves: %v", x, whole)
		}
	}
}

// before reports whether a word comes before another one: by length, then by the first move that differs.
func before(a, b api.Word) bool {
	if len(a) != len(b) {
		return len(a) < len(b)
	}
	for i := range a {
		if a[i] != b[i] {
			return arena.Less(a[i], b[i])
		}
	}
	return false
}

// P8.6 to P8.8, P8.15: First lists all words in their order, as Count says of each length, and none longer than Longest.
func TestInOrder(t *testing.T) {
	r := source(9)
	for range 1500 {
		x := anyAuto(r)
		many := r.IntN(60)
		l, e := First(x, many)
		if e != api.OK {
			t.Fatalf("First %d of %v: %v", many, x, e)
		}
		n, ends, e := Longest(x)
		if e != api.OK || !ends && n != 0 {
			t.Fatalf("Longest of %v: %d, %v, %v", x, n, ends, e)
		}
		want := firstByBook(x, many)
		if !slices.EqualFunc(l, want, func(a, b api.Word) bool { return slices.Equal(a, b) }) {
			t.Fatalf("First %d of %v: %v, not %v", many, x, l, want)
		}
		of := map[int]int{}
		for i, w := range l {
			of[len(w)]++
			if !has(t, x, w) || i > 0 && !before(l[i-1], w) || ends && len(w) > n {
				t.Fatalf("the word %d of %v: %v", i, x, l)
			}
		}
		if len(l) < many && !ends {
			t.Fatalf("First %d of %v: only %d", many, x, len(l))
		}
		checkCounts(t, x, l, many, of)
		if ends && len(l) < many && len(l) > 0 && len(l[len(l)-1]) != n {
			t.Fatalf("Longest of %v: %d", x, n)
		}
	}
}

// checkCounts checks that a list has as many words of each length as Count says, as far as it goes.
func checkCounts(t *testing.T, x api.Auto, l []api.Word, many int, of map[int]int) {
	t.Helper()
	last := 12
	if len(l) == many {
		last = -1
		if many > 0 {
			last = len(l[many-1])
		}
	}
	for n := range last + 1 {
		got, e := Count(x, n)
		if e != api.OK || got < of[n] || got > of[n] && (n < last || len(l) < many) {
			t.Fatalf("Count of %d in %v: %d, %v, not %d", n, x, got, e, of[n])
		}
	}
}

// firstByBook returns the first words, by all ways of each length in turn.
func firstByBook(x api.Auto, many int) []api.Word {
	type way struct {
		w  api.Word
		at int
	}
	var l []api.Word
	ways := []way{{nil, 0}}
	ends := leadsToEnd(x)
	for len(ways) > 0 && len(l) < many {
		var further []way
		for _, y := range ways {
			if x.Final[y.at] && len(l) < many {
				l = append(l, y.w)
			}
			for _, e := range x.Next[y.at] {
				if ends[e.To] && len(further) < 5000 {
					further = append(further, way{append(slices.Clone(y.w), e.Move), e.To})
				}
			}
		}
		ways = further
	}
	return l
}

// P8.16: the automaton with the text of an automaton is this automaton.
func TestThereAndBack(t *testing.T) {
	r := source(10)
	texts := 0
	for range 3000 {
		if sameAgain(t, anyAuto(r)) {
			texts++
		}
	}
	if texts < 500 {
		t.Errorf("only %d have texts", texts)
	}
}

// sameAgain parses the text of an automaton, and reports whether it has one.
func sameAgain(t *testing.T, x api.Auto) bool {
	t.Helper()
	s, e := Text(x)
	if e != api.OK {
		if s != "" || e != api.ErrForm {
			t.Fatalf("Text of %v: %q, %v", x, s, e)
		}
		return false
	}
	if y, e := Parse(s); !alike(x, y) || e != api.OK {
		t.Fatalf("Parse of %q: %v, %v", s, y, e)
	}
	return true
}

// P8.3: the automaton of random words of conversations has just these.
func TestOnlyAgainstBook(t *testing.T) {
	r := source(11)
	a, e := arena.Read("int 2; (int 3, cell 2) -> int 1; cell 2; jumps")
	if e != api.OK {
		t.Fatal(e)
	}
	for range 300 {
		var l []api.Word
		for range r.IntN(12) {
			var w api.Word
			for range r.IntN(14) {
				next, e := play.Next(a, w)
				if e != api.OK || len(next) == 0 {
					break
				}
				w = append(w, next[r.IntN(len(next))])
			}
			l = append(l, w)
		}
		x, e := Only(l)
		ofBook(t, "Only", onlyBook(l), x, e)
		slices.SortFunc(l, func(a, b api.Word) int {
			if before(a, b) {
				return -1
			}
			return 1
		})
		l = slices.CompactFunc(l, func(a, b api.Word) bool { return slices.Equal(a, b) })
		if got, e := First(x, 200); e != api.OK || !slices.EqualFunc(got, l, func(a, b api.Word) bool { return slices.Equal(a, b) }) {
			t.Fatalf("First of the automaton of %v: %v, %v", l, got, e)
		}
	}
}

// FuzzAuto tries any automata, any words and any texts.
func FuzzAuto(f *testing.F) {
	f.Add([]byte{3, 1, 0, 0, 1, 1, 1, 2, 0, 2, 2}, []byte{1, 0, 1, 0, 0}, []byte{0, 1, 2}, "0 0?>1\n1*\n")
	f.Add([]byte{6, 40, 0, 0, 1, 0, 0, 2, 1, 3, 4, 1, 2, 3}, []byte{5, 9, 0, 1, 0, 0, 3, 0}, []byte{5, 5}, "0* 1?>0 0?>0\n")
	f.Add([]byte{}, []byte{0, 1}, []byte{}, "0\n0\n")
	f.Fuzz(func(t *testing.T, a, b, c []byte, s string) {
		if x, e := Parse(s); e == api.OK {
			if u, f := Text(x); u != s || f != api.OK || !isCanonicalByBook(x) {
				t.Fatalf("Parse of %q: %v with the text %q, %v", s, x, u, f)
			}
		}
		raw, other := rawOf(a), rawOf(b)
		want := api.ErrForm
		if isCanonicalByBook(raw) {
			want = api.OK
		}
		if e := Check(raw); e != want {
			t.Fatalf("Check of %v: %v, not %v", raw, e, want)
		}
		x, e := Canon(raw)
		ofBook(t, "Canon", bookOf(raw), x, e)
		y, e := Canon(other)
		ofBook(t, "Canon", bookOf(other), y, e)
		var w api.Word
		var ids []int
		for _, n := range c[:min(len(c), 20)] {
			w = append(w, some[int(n)%len(some)])
			ids = append(ids, int(n)%4-1)
		}
		operations(t, x, y, w, ids)
		sameAgain(t, x)
		l, _ := First(x, 30)
		if want := firstByBook(x, 30); !slices.EqualFunc(l, want[:min(len(want), 30)], func(a, b api.Word) bool { return slices.Equal(a, b) }) {
			t.Fatalf("First 30 of %v: %v, not %v", x, l, want)
		}
	})
}

// rawOf returns a small raw automaton that bytes tell.
func rawOf(b []byte) api.Auto {
	m := newMaker()
	if len(b) < 2 {
		return m.Auto
	}
	for n := range int(b[0]) % 6 {
		m.state(b[1]>>n&1 == 1)
	}
	m.Final[0] = b[1]>>7 == 1
	for b = b[2:]; len(b) >= 3 && edges(m.Auto) < 12; b = b[3:] {
		m.edge(int(b[0])%len(m.Next), some[int(b[1])%len(some)], int(b[2])%len(m.Next))
	}
	return m.Auto
}
