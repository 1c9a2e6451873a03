package auto

import (
	"testing"

	"riposte/api"
)

// two is the words of the automaton b of the chapter's examples.
const two = "0? 0!0, 0? 1? 1!0 0!1"

// P8.4: unions, what two have in common, and differences.
func TestSets(t *testing.T) {
	for _, x := range []struct{ a, b, union, both, less, more string }{
		{two, "0? 0!0", two, "0? 0!0", "0? 1? 1!0 0!1", "-"}, {"1?, 2?", "2?, 3?", "1?, 2?, 3?", "2?", "1?", "3?"}, {", 1?", "1?", ", 1?", "1?", "", "-"},
		{"-", "-", "-", "-", "-", "-"}, {"-", "1?", "1?", "-", "-", "1?"}, {"", "", "", "", "-", "-"}, {"", "-", "", "-", "", "-"}, {"1?", "1? 1?", "1?, 1? 1?", "-", "1?", "1? 1?"}, {"1? 2?", "1? 3?", "1? 2?, 1? 3?", "-", "1? 2?", "1? 3?"},
		{"1? 1? 1?, 1?", "1? 1?, 1?", "1?, 1? 1?, 1? 1? 1?", "1?", "1? 1? 1?", "1? 1?"}, {"1!0, 1!1, 1!2", "1!1", "1!0, 1!1, 1!2", "1!1", "1!0, 1!2", "-"},
	} {
		a, b := only(t, x.a), only(t, x.b)
		for _, y := range []struct {
			name   string
			of     func(x, y api.Auto) (api.Auto, api.Errno)
			ab, ba string
		}{{"Union", Union, x.union, x.union}, {"Both", Both, x.both, x.both}, {"Without", Without, x.less, x.more}} {
			got, e := y.of(a, b)
			turned, f := y.of(b, a)
			if !alike(got, only(t, y.ab)) || !alike(turned, only(t, y.ba)) || e != api.OK || f != api.OK {
				t.Errorf("%s of %q and %q: %v, %v; turned: %v, %v", y.name, x.a, x.b, got, e, turned, f)
			}
		}
	}
}

// P8.4: pairs with great numbers are not taken for others.
func TestManyPairs(t *testing.T) {
	// The second one comes round every 64 steps, and has so many other states that a number of a pair is the one of 256 states of the first one earlier, but for 2^16.
	m := newMaker()
	at := m.path(0, step, 63)
	m.edge(at, step, 0)
	m.Final[43] = true
	m.Final[m.path(0, mark, 191)] = true
	x, y := line(300), canon(t, m.Auto)
	if len(y.Next) != 255 {
		t.Fatalf("the second one has %d states", len(y.Next))
	}
	for _, z := range []struct {
		name string
		of   func(x, y api.Auto) (api.Auto, api.Errno)
		want api.Auto
	}{{"Both", Both, x}, {"Without", Without, lone(false)}} {
		if got, e := z.of(x, y); e != api.OK || !alike(got, z.want) {
			t.Errorf("%s: %d states, %v", z.name, len(got.Next), e)
		}
	}
}

// P8.4: operations on sets without a longest word.
func TestEndless(t *testing.T) {
	for _, x := range []struct{ a, b, union, both, less, chain string }{
		{"0* 1?>1, 1 1?>0", "0* 1?>1, 1 1?>2, 2 1?>0", "0* 1?>1, 1 1?>2, 2* 1?>3, 3* 1?>4, 4* 1?>5, 5 1?>0", "0* 1?>1, 1 1?>2, 2 1?>3, 3 1?>4, 4 1?>5, 5 1?>0", "0 1?>1, 1 1?>2, 2* 1?>3, 3 1?>4, 4* 1?>5, 5 1?>0", "0* 1?>1, 1 1?>2, 2* 1?>2"},
		{"0* 1?>0 2?>0", "0* 1?>0", "0* 1?>0 2?>0", "0* 1?>0", "0 1?>0 2?>1, 1* 1?>1 2?>1", "0* 1?>0 2?>0"},
		{"0 1?>0 2?>1, 1*", "0 1?>1, 1* 2?>1", "0 1?>1 2?>2, 1* 1?>3 2?>4, 2*, 3 1?>3 2?>2, 4* 2?>4", "0 1?>1, 1 2?>2, 2*", "0 1?>1 2?>2, 1 1?>3, 2*, 3 1?>3 2?>2", "0 1?>0 2?>1, 1 1?>2, 2* 2?>2"},
	} {
		a, b := parsed(t, x.a), parsed(t, x.b)
		for _, y := range []struct {
			name string
			of   func(x, y api.Auto) (api.Auto, api.Errno)
			want string
		}{{"Union", Union, x.union}, {"Both", Both, x.both}, {"Without", Without, x.less}, {"Chain", Chain, x.chain}} {
			if got, e := y.of(a, b); e != api.OK || text(t, got) != y.want {
				t.Errorf("%s of %q and %q: %q, %v, not %q", y.name, x.a, x.b, text(t, got), e, y.want)
			}
		}
	}
}

// P8.4: chains.
func TestChain(t *testing.T) {
	for _, x := range []struct{ a, b, chain string }{
		{"-", "1?", "-"}, {"1?", "-", "-"}, {"-", "-", "-"}, {"", "1?", "1?"}, {"1?", "", "1?"}, {"", "", ""}, {"1?", "1?", "1? 1?"}, {", 1?", "1?", "1?, 1? 1?"}, {", 1?", ", 1?", ", 1?, 1? 1?"},
		{two, "0? 0!0", "0? 0!0 0? 0!0, 0? 1? 1!0 0!1 0? 0!0"}, {"1?, 2?", "2?, 3?", "1? 2?, 1? 3?, 2? 2?, 2? 3?"}, {"1?, 1? 2?", "3?, 2? 3?", "1? 3?, 1? 2? 3?, 1? 2? 2? 3?"},
	} {
		if got, e := Chain(only(t, x.a), only(t, x.b)); e != api.OK || !alike(got, only(t, x.chain)) {
			t.Errorf("Chain of %q and %q: %v, %v", x.a, x.b, got, e)
		}
	}
}

// P8.4: stars.
func TestStar(t *testing.T) {
	for s, want := range map[string]string{
		"0": "0*", "0*": "0*", "0 1?>1, 1*": "0* 1?>0", "0* 1?>1, 1*": "0* 1?>0", "0 1?>1, 1* 1!0>2, 2*": "0* 1?>1, 1* 1?>1 1!0>0", "0 1?>1, 1 2?>2, 2*": "0* 1?>1, 1 2?>0",
		"0 0?>1, 1 0!0>2 1?>3, 2*, 3 1!0>4, 4 0!1>2": "0* 0?>1, 1 0!0>0 1?>2, 2 1!0>3, 3 0!1>0",
		// A word that leads back to the first state, which is not final, is no word of the star.
		"0 1?>0 2?>1, 1*": "0* 1?>1 2?>0, 1 1?>1 2?>0", "0 1?>1 2?>2, 1 1?>0, 2*": "0* 1?>1 2?>0, 1 1?>2, 2 1?>1 2?>0",
	} {
		if got, e := Star(parsed(t, s)); e != api.OK || text(t, got) != want {
			t.Errorf("Star of %q: %q, %v, not %q", s, text(t, got), e, want)
		}
	}
}

// P8.5: words with moves left out.
func TestHide(t *testing.T) {
	for _, x := range []struct {
		s    string
		ids  []int
		want string
	}{
		{told, nil, told}, {told, []int{}, told}, {told, []int{7, -1, 1 << 62}, told}, {told, []int{1}, "0 0?>1, 1 0!0>2 0!1>2, 2*"}, {told, []int{0}, "0* 1?>1, 1 1!0>2, 2*"}, {told, []int{0, 1, 1, 0}, "0*"}, {told, []int{1, 1, 1}, "0 0?>1, 1 0!0>2 0!1>2, 2*"},
		{"0", []int{0, 1}, "0"}, {"0*", []int{0}, "0*"}, {"0* 1?>0", []int{1}, "0*"}, {"0 1?>0 2?>1, 1*", []int{1}, "0 2?>1, 1*"}, {"0 1?>0 2?>1, 1*", []int{2}, "0* 1?>0"},
		// Whatever is of an identifier is left out: its parameters, too.
		{"0 1.2?>1, 1 1.2=3>2, 2 1!*>3, 3 2.1?>4, 4*", []int{1}, "0 2.1?>1, 1*"}, {"0 1.2?>1, 1 1.2=3>2, 2 1!*>3, 3 2.1?>4, 4*", []int{2}, "0 1.2?>1, 1 1.2=3>2, 2 1!*>3, 3*"},
		// Several hidden moves one behind the other, and several states then.
		{"0 1?>1 1!0>2, 1 1?>2 2?>3, 2 1?>0 2!0>3, 3* 1?>0", []int{1}, "0 2?>1 2!0>1, 1* 2?>1 2!0>1"},
	} {
		if got, e := Hide(parsed(t, x.s), x.ids); e != api.OK || text(t, got) != x.want {
			t.Errorf("Hide of %v in %q: %q, %v, not %q", x.ids, x.s, text(t, got), e, x.want)
		}
	}
}

// P8.3, P8.5: what can follow a word, and whether it is one.
func TestRestAndHas(t *testing.T) {
	const star = "0* 1?>1, 1* 1?>1 1!0>0"
	for _, x := range []struct {
		s, w, rest string
		has        bool
	}{
		{told, "", told, false}, {told, "0?", "0 0!0>1 1?>2, 1*, 2 1!0>3, 3 0!1>1", false}, {told, "0? 1?", "0 1!0>1, 1 0!1>2, 2*", false}, {told, "0? 0!0", "0*", true}, {told, "0? 1? 1!0 0!1", "0*", true},
		{told, "1?", "0", false}, {told, "0? 0!1", "0", false}, {told, "0? 0!0 0?", "0", false}, {told, "0? 0!0 0? 0!0", "0", false}, {told, "1? 0? 0!0", "0", false},
		{"0", "", "0", false}, {"0", "0?", "0", false}, {"0*", "", "0*", true}, {"0*", "0?", "0", false}, {star, "", star, true}, {star, "1? 1? 1!0", star, true}, {star, "1? 1!0 1?", "0* 1?>0 1!0>1, 1* 1?>0", true}, {star, "1!0", "0", false},
	} {
		a, w := parsed(t, x.s), word(t, x.w)
		if got, e := Rest(a, w); e != api.OK || text(t, got) != x.rest {
			t.Errorf("Rest of %q and %q: %q, %v, not %q", x.s, x.w, text(t, got), e, x.rest)
		}
		if got, e := Has(a, w); e != api.OK || got != x.has {
			t.Errorf("Has of %q and %q: %v, %v", x.s, x.w, got, e)
		}
	}
}

// P8.3, P8.5: words of as many moves as there may be, and of one more.
func TestLongWords(t *testing.T) {
	a := parsed(t, "0* 0?>0")
	w := make(api.Word, api.MaxWord+1)
	for i := range w {
		w[i] = ask
	}
	if is, e := Has(a, w[1:]); !is || e != api.OK {
		t.Errorf("Has of a long word: %v, %v", is, e)
	}
	if x, e := Rest(a, w[1:]); !alike(x, a) || e != api.OK {
		t.Errorf("Rest of a long word: %v, %v", x, e)
	}
	if is, e := Has(a, w); is || e != api.ErrLimit {
		t.Errorf("Has of a word that is too long: %v, %v", is, e)
	}
	if x, e := Rest(a, w); !isZero(x) || e != api.ErrLimit {
		t.Errorf("Rest of a word that is too long: %v, %v", x, e)
	}
	w[0] = told0
	if is, e := Has(a, w); is || e != api.ErrLimit {
		t.Errorf("Has of a word that is too long and none: %v, %v", is, e)
	}
}
