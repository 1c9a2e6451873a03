package auto

import (
	"slices"
	"strconv"

	"riposte/api"
	"riposte/arena"
)

// book is an automaton as the chapter's table has it: its first states, and all states with their edges, of which several may have the same move.
type book struct {
	first []int
	next  [][]api.Edge
	final []bool
}

func bookOf(x api.Auto) book { return book{[]int{0}, x.Next, x.Final} }

// besideBook puts two automata beside each other.
func besideBook(x, y api.Auto) book {
	b := book{nil, nil, slices.Concat(x.Final, y.Final)}
	for _, l := range x.Next {
		b.next = append(b.next, slices.Clone(l))
	}
	for _, l := range y.Next {
		b.next = append(b.next, nil)
		for _, e := range l {
			b.next[len(b.next)-1] = append(b.next[len(b.next)-1], api.Edge{Move: e.Move, To: e.To + len(x.Next)})
		}
	}
	return b
}

func unionBook(x, y api.Auto) book {
	b := besideBook(x, y)
	b.first = []int{0, len(x.Next)}
	return b
}

func bothBook(x, y api.Auto) book {
	m := len(y.Next)
	b := book{first: []int{0}}
	for p := range x.Next {
		for q := range y.Next {
			var l []api.Edge
			for _, e := range x.Next[p] {
				for _, f := range y.Next[q] {
					if e.Move == f.Move {
						l = append(l, api.Edge{Move: e.Move, To: e.To*m + f.To})
					}
				}
			}
			b.next = append(b.next, l)
			b.final = append(b.final, x.Final[p] && y.Final[q])
		}
	}
	return b
}

func withoutBook(x, y api.Auto) book {
	m := len(y.Next) + 1
	b := book{first: []int{0}}
	for p := range x.Next {
		for q := range m {
			var l []api.Edge
			for _, e := range x.Next[p] {
				to := m - 1
				if q < m-1 {
					for _, f := range y.Next[q] {
						if f.Move == e.Move {
							to = f.To
						}
					}
				}
				l = append(l, api.Edge{Move: e.Move, To: e.To*m + to})
			}
			b.next = append(b.next, l)
			b.final = append(b.final, x.Final[p] && (q == m-1 || !y.Final[q]))
		}
	}
	return b
}

func chainBook(x, y api.Auto) book {
	b := besideBook(x, y)
	b.first = []int{0}
	for p := range x.Next {
		if x.Final[p] {
			b.next[p] = append(b.next[p], b.next[len(x.Next)]...)
			b.final[p] = y.Final[0]
		}
	}
	return b
}

func starBook(x api.Auto) book {
	b := besideBook(x, api.Auto{Next: [][]api.Edge{nil}, Final: []bool{true}})
	b.first = []int{len(x.Next)}
	for p := range b.next {
		if b.final[p] {
			b.next[p] = append(b.next[p], x.Next[0]...)
		}
	}
	return b
}

func hideBook(x api.Auto, ids []int) book {
	b := book{first: []int{0}}
	for p := range x.Next {
		var l []api.Edge
		final := false
		for _, q := range quiet(x, p, ids) {
			final = final || x.Final[q]
			for _, e := range x.Next[q] {
				if !slices.Contains(ids, e.Move.Id) {
					l = append(l, e)
				}
			}
		}
		b.next = append(b.next, l)
		b.final = append(b.final, final)
	}
	return b
}

// quiet returns the states to which one comes by none or more moves that are left out.
func quiet(x api.Auto, p int, ids []int) []int {
	all := []int{p}
	for i := 0; i < len(all); i++ {
		for _, e := range x.Next[all[i]] {
			if slices.Contains(ids, e.Move.Id) && !slices.Contains(all, e.To) {
				all = append(all, e.To)
			}
		}
	}
	return all
}

func restBook(x api.Auto, w api.Word) book {
	at := []int{0}
	for _, m := range w {
		at = bookOf(x).after(at, m)
	}
	return book{at, x.Next, x.Final}
}

// onlyBook has a line of states for each word.
func onlyBook(l []api.Word) book {
	var b book
	for _, w := range l {
		b.first = append(b.first, len(b.next))
		for _, m := range w {
			b.next = append(b.next, []api.Edge{{Move: m, To: len(b.next) + 1}})
			b.final = append(b.final, false)
		}
		b.next = append(b.next, nil)
		b.final = append(b.final, true)
	}
	return b
}

// after returns the set to which a move leads from a set.
func (b book) after(set []int, m api.Move) []int {
	var l []int
	for _, p := range set {
		for _, e := range b.next[p] {
			if e.Move == m {
				l = append(l, e.To)
			}
		}
	}
	slices.Sort(l)
	return slices.Compact(l)
}

// moves returns the moves by which a set goes on, ascending.
func (b book) moves(set []int) []api.Move {
	var l []api.Move
	seen := map[api.Move]bool{}
	for _, p := range set {
		for _, e := range b.next[p] {
			if !seen[e.Move] {
				seen[e.Move] = true
				l = append(l, e.Move)
			}
		}
	}
	slices.SortFunc(l, func(a, b api.Move) int {
		if arena.Less(a, b) {
			return -1
		}
		return 1
	})
	return l
}

func (b book) isFinal(set []int) bool {
	return slices.ContainsFunc(set, func(p int) bool { return b.final[p] })
}

// has reports whether a word is of the automaton.
func (b book) has(w api.Word) bool {
	set := b.first
	for _, m := range w {
		set = b.after(set, m)
	}
	return b.isFinal(set)
}

// named returns a text of a set.
func named(set []int) string {
	s := ""
	for _, p := range set {
		s += strconv.Itoa(p) + " "
	}
	return s
}

// sets returns the automaton of all sets that can be reached.
func (b book) sets() api.Auto {
	var x api.Auto
	list, numbers := [][]int{b.first}, map[string]int{named(b.first): 0}
	for i := 0; i < len(list); i++ {
		var l []api.Edge
		for _, m := range b.moves(list[i]) {
			set := b.after(list[i], m)
			if _, ok := numbers[named(set)]; !ok {
				numbers[named(set)] = len(list)
				list = append(list, set)
			}
			l = append(l, api.Edge{Move: m, To: numbers[named(set)]})
		}
		x.Next = append(x.Next, l)
		x.Final = append(x.Final, b.isFinal(list[i]))
	}
	return x
}

// least returns how many states and edges the canonical automaton has: states that lead to an end are told apart round by round, as far as they can be.
func (b book) least() (states, many int) {
	x := b.sets()
	ends := leadsToEnd(x)
	if !ends[0] {
		return 1, 0
	}
	class, classes := make([]int, len(x.Next)), 0
	for {
		of, names := make([]int, len(x.Next)), map[string]int{}
		for p := range x.Next {
			if !ends[p] {
				continue
			}
			s := strconv.Itoa(class[p]) + " " + strconv.FormatBool(x.Final[p])
			for _, e := range x.Next[p] {
				if ends[e.To] {
					s += " " + strconv.Itoa(e.Move.Id) + " " + strconv.Itoa(e.Move.Arg) + " " + strconv.Itoa(int(e.Move.Kind)) + " " + strconv.Itoa(e.Move.N) + " " + strconv.Itoa(class[e.To])
				}
			}
			if _, ok := names[s]; !ok {
				names[s] = len(names)
			}
			of[p] = names[s]
		}
		class = of
		if len(names) == classes {
			break
		}
		classes = len(names)
	}
	counted := map[int]bool{}
	for p, l := range x.Next {
		if !ends[p] || counted[class[p]] {
			continue
		}
		counted[class[p]] = true
		for _, e := range l {
			if ends[e.To] {
				many++
			}
		}
	}
	return len(counted), many
}

// leadsToEnd tells of each state whether a final one can be reached from it.
func leadsToEnd(x api.Auto) []bool {
	ends := slices.Clone(x.Final)
	for again := true; again; {
		again = false
		for p, l := range x.Next {
			for _, e := range l {
				if ends[e.To] && !ends[p] {
					ends[p], again = true, true
				}
			}
		}
	}
	return ends
}

// says reports whether a canonical automaton has just the words of the book's: along all words both are final at the same time.
func (b book) says(x api.Auto) bool {
	type pair struct {
		set string
		p   int // -1: none
	}
	type place struct {
		set []int
		p   int
	}
	list, seen := []place{{b.first, 0}}, map[pair]bool{{named(b.first), 0}: true}
	for i := 0; i < len(list); i++ {
		at := list[i]
		if b.isFinal(at.set) != (at.p >= 0 && x.Final[at.p]) {
			return false
		}
		moves := b.moves(at.set)
		if at.p >= 0 {
			for _, e := range x.Next[at.p] {
				if !slices.Contains(moves, e.Move) {
					moves = append(moves, e.Move)
				}
			}
		}
		for _, m := range moves {
			to := place{b.after(at.set, m), -1}
			if at.p >= 0 {
				for _, e := range x.Next[at.p] {
					if e.Move == m {
						to.p = e.To
					}
				}
			}
			if k := (pair{named(to.set), to.p}); !seen[k] {
				seen[k] = true
				list = append(list, to)
			}
		}
	}
	return true
}

// isCanonicalByBook reports whether an automaton is canonical, condition by condition.
func isCanonicalByBook(x api.Auto) bool {
	if len(x.Next) == 0 || len(x.Next) != len(x.Final) {
		return false
	}
	for _, l := range x.Next {
		for i, e := range l {
			if e.To < 0 || e.To >= len(x.Next) || i > 0 && !arena.Less(l[i-1].Move, e.Move) {
				return false
			}
		}
	}
	if len(x.Next) == 1 && len(x.Next[0]) == 0 {
		return true // no words, or the empty one alone
	}
	if slices.Contains(leadsToEnd(x), false) {
		return false
	}
	met := []int{0}
	for i := 0; i < len(met); i++ {
		for _, e := range x.Next[met[i]] {
			if !slices.Contains(met, e.To) {
				met = append(met, e.To)
			}
		}
	}
	if len(met) != len(x.Next) || !slices.IsSorted(met) {
		return false
	}
	states, _ := bookOf(x).least()
	return states == len(x.Next)
}
