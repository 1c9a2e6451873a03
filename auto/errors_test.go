package auto

import (
	"slices"
	"testing"

	"riposte/api"
)

// outcome is the error of a function, and whether its other results are zero values.
type outcome struct {
	name string
	e    api.Errno
	zero bool
}

// outcomes calls all functions of one automaton, but Canon, and those of two with it as the first one.
func outcomes(x, y api.Auto, w api.Word, n int) []outcome {
	l := []outcome{{"Check", Check(x), true}}
	is, e := Has(x, w)
	l = append(l, outcome{"Has", e, !is})
	z, e := Star(x)
	l = append(l, outcome{"Star", e, isZero(z)})
	z, e = Hide(x, []int{n})
	l = append(l, outcome{"Hide", e, isZero(z)})
	z, e = Rest(x, w)
	l = append(l, outcome{"Rest", e, isZero(z)})
	words, e := First(x, n)
	l = append(l, outcome{"First", e, len(words) == 0})
	many, e := Count(x, n)
	l = append(l, outcome{"Count", e, many == 0})
	many, ends, e := Longest(x)
	l = append(l, outcome{"Longest", e, many == 0 && !ends})
	s, e := Text(x)
	l = append(l, outcome{"Text", e, s == ""})
	return append(l, outcomesOfTwo(x, y)...)
}

// outcomesOfTwo calls the functions of two automata.
func outcomesOfTwo(x, y api.Auto) []outcome {
	var l []outcome
	for name, of := range map[string]func(x, y api.Auto) (api.Auto, api.Errno){"Union": Union, "Both": Both, "Without": Without, "Chain": Chain} {
		z, e := of(x, y)
		l = append(l, outcome{name, e, isZero(z)})
	}
	return l
}

// flawed returns automata by their errors.
func flawed() map[api.Errno][]api.Auto {
	over, full := great()
	return map[api.Errno][]api.Auto{
		api.ErrLimit: over,
		api.ErrForm:  append(full, api.Auto{}, api.Auto{Next: [][]api.Edge{nil}}, api.Auto{Next: [][]api.Edge{{{To: 9}}}, Final: []bool{true}}, api.Auto{Next: [][]api.Edge{{{Move: ask}}}, Final: []bool{false}}, api.Auto{Next: [][]api.Edge{{{Move: ask}, {Move: ask}}}, Final: []bool{true}}),
	}
}

// P8.3 to P8.9, R1, R2: the errors of an automaton come first, those of the first one before those of the second one, whatever else is wrong.
func TestFirstErrors(t *testing.T) {
	long := make(api.Word, api.MaxWord+1)
	good := parsed(t, told)
	for want, l := range flawed() {
		for i, x := range l {
			all := outcomes(x, good, long, -1)
			all = append(all, outcomes(x, x, nil, api.MaxWord+1)...)
			all = append(all, outcomesOfTwo(good, x)...)
			for _, y := range flawed() {
				for _, z := range y {
					all = append(all, outcomesOfTwo(x, z)...)
				}
			}
			for _, y := range all {
				if y.e != want || !y.zero {
					t.Errorf("%s with the flawed automaton %d: %v, not %v; zero values: %v", y.name, i, y.e, want, y.zero)
				}
			}
		}
	}
}

// R3: nil and empty lists are the same.
func TestNilAndEmpty(t *testing.T) {
	empty := api.Auto{Next: [][]api.Edge{{}}, Final: []bool{true}}
	for _, y := range outcomes(empty, lone(true), api.Word{}, 0) {
		if y.e != api.OK {
			t.Errorf("%s of an automaton with an empty list: %v", y.name, y.e)
		}
	}
	if x, e := Canon(empty); e != api.OK || !alike(x, lone(true)) {
		t.Errorf("Canon: %v, %v", x, e)
	}
	for _, l := range [][]api.Word{{nil}, {{}}, {{}, nil}} {
		if x, e := Only(l); e != api.OK || !alike(x, lone(true)) {
			t.Errorf("Only of %v: %v, %v", l, x, e)
		}
	}
	if x, e := Only([]api.Word{}); e != api.OK || !alike(x, lone(false)) {
		t.Errorf("Only of none: %v, %v", x, e)
	}
	for _, w := range []api.Word{nil, {}} {
		if x, e := Rest(empty, w); e != api.OK || !alike(x, empty) {
			t.Errorf("Rest: %v, %v", x, e)
		}
		if is, e := Has(empty, w); !is || e != api.OK {
			t.Errorf("Has: %v, %v", is, e)
		}
	}
}

// roomy returns the same automaton, with spare room behind each list, which is filled.
func roomy(x api.Auto) (y api.Auto, isWhole func() bool) {
	spare := api.Edge{Move: api.Move{Id: 99}, To: 99}
	next := [][]api.Edge{}
	for _, l := range x.Next {
		next = append(next, append(slices.Clone(l), spare, spare)[:len(l)])
	}
	many := len(next)
	next = append(next, []api.Edge{spare})[:many]
	final := append(slices.Clone(x.Final), true, true)[:many]
	y = api.Auto{Next: next, Final: final}
	return y, func() bool {
		for _, l := range next {
			if more := l[:len(l)+2]; more[len(l)] != spare || more[len(l)+1] != spare {
				return false
			}
		}
		return alike(x, y) && next[:many+1][many][0] == spare && final[:many+2][many] && final[:many+2][many+1]
	}
}

// R4: no argument is changed, nor what lies behind its end, and results share no memory with arguments, nor with themselves.
func TestOwnMemory(t *testing.T) {
	for _, s := range []string{told, "0* 1?>1, 1* 1?>1 1!0>0", "0*", "0", "0 0?>1 0!0>2 1?>3, 1 1?>4, 2 2?>4, 3 3?>4, 4*"} {
		x, isWhole := roomy(parsed(t, s))
		y, isWholeToo := roomy(parsed(t, "0 0?>1, 1* 1?>0 1!0>1"))
		w := append(make(api.Word, 0, 8), ask)
		ids := append(make([]int, 0, 8), 1, 0)[:1]
		list := append(make([]api.Word, 0, 8), w, w)[:1]
		for i, of := range []func() (api.Auto, api.Errno){
			func() (api.Auto, api.Errno) { return Canon(x) },
			func() (api.Auto, api.Errno) { return Only(list) },
			func() (api.Auto, api.Errno) { return Union(x, y) },
			func() (api.Auto, api.Errno) { return Union(x, x) },
			func() (api.Auto, api.Errno) { return Both(x, y) },
			func() (api.Auto, api.Errno) { return Both(x, x) },
			func() (api.Auto, api.Errno) { return Without(x, y) },
			func() (api.Auto, api.Errno) { return Chain(x, y) },
			func() (api.Auto, api.Errno) { return Chain(x, x) },
			func() (api.Auto, api.Errno) { return Star(x) },
			func() (api.Auto, api.Errno) { return Hide(x, ids) },
			func() (api.Auto, api.Errno) { return Hide(x, nil) },
			func() (api.Auto, api.Errno) { return Rest(x, nil) },
			func() (api.Auto, api.Errno) { return Rest(x, w) },
			func() (api.Auto, api.Errno) { return Parse("0 0?>1\n1*\n") },
		} {
			z, e := of()
			want := twin(z)
			for p := range z.Next {
				z.Next[p] = append(z.Next[p], api.Edge{To: -7})
				for q := range z.Next {
					if q > p && !slices.Equal(z.Next[q], want.Next[q]) {
						t.Fatalf("%d of %q shares memory with itself", i, s)
					}
				}
				clear(z.Next[p])
			}
			clear(z.Next)
			for p := range z.Final {
				z.Final[p] = !z.Final[p]
			}
			again, f := of()
			if e != api.OK || f != api.OK || !alike(again, want) || !isWhole() || !isWholeToo() {
				t.Fatalf("%d of %q: %v, %v; %v, not %v", i, s, e, f, again, want)
			}
		}
		for range 2 {
			outcomes(x, y, w, 3)
			outcomes(y, x, w, 0)
		}
		if !isWhole() || !isWholeToo() || !slices.Equal(w[:2], api.Word{ask, {}}) || !slices.Equal(ids[:2], []int{1, 0}) || !slices.Equal(list[:2][1], w) {
			t.Fatalf("arguments were changed with %q", s)
		}
	}
}
