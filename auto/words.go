package auto

import (
	"slices"

	"riposte/api"
)

// lister lists the first words of an automaton.
type lister struct {
	api.Auto
	many  int
	ends  [][]bool // whether so many further moves can lead from each state to a final one
	found []api.Word
}

// list returns the first words of an automaton, as far as they have not too many moves, and whether there is a longest one.
func list(x api.Auto, many int) (l []api.Word, ends bool) {
	most, ends := longest(x)
	if !ends {
		most = api.MaxWord
	}
	w := &lister{Auto: x, many: many}
	for length := range most + 1 {
		if len(w.found) == many {
			break
		}
		w.ends = append(w.ends, w.endsIn(length))
		w.add(nil, 0, length)
	}
	return w.found, ends
}

// endsIn tells of each state whether so many moves can lead from it to a final one, if this is known of one move less.
func (l *lister) endsIn(length int) []bool {
	if length == 0 {
		return l.Final
	}
	ends := make([]bool, len(l.Next))
	for p, edges := range l.Next {
		ends[p] = slices.ContainsFunc(edges, func(e api.Edge) bool { return l.ends[length-1][e.To] })
	}
	return ends
}

// add adds the words that go on from a state, behind some moves, by so many further ones.
func (l *lister) add(w api.Word, at, further int) {
	switch {
	case len(l.found) == l.many || !l.ends[further][at]:
		return
	case further == 0:
		l.found = append(l.found, slices.Clone(w))
		return
	}
	for _, e := range l.Next[at] {
		l.add(append(w, e.Move), e.To, further-1)
	}
}

// longest returns the length of the longest word, and whether there is one, or no word at all. Each state of a canonical automaton goes on to some end, so words are as long as ways; a way with as many moves as there are states comes back to one, and can do so again and again.
func longest(x api.Auto) (n int, ends bool) {
	at := make([]bool, len(x.Next)) // whether a way of the length comes to each state
	at[0] = true
	for length := range len(x.Next) {
		next := make([]bool, len(x.Next))
		for p, edges := range x.Next {
			for _, e := range edges {
				next[e.To] = next[e.To] || at[p]
			}
		}
		if !slices.Contains(next, true) {
			return length, true
		}
		at = next
	}
	return 0, false
}

// count returns how many words have a length; if there are more than are counted, one more than these.
func count(x api.Auto, length int) int {
	ways := make([]int, len(x.Next)) // from each state to the final ones
	for p, final := range x.Final {
		if final {
			ways[p] = 1
		}
	}
	for range length {
		further := make([]int, len(x.Next))
		for p, edges := range x.Next {
			for _, e := range edges {
				further[p] = min(further[p]+ways[e.To], maxCount+1)
			}
		}
		ways = further
	}
	return ways[0]
}
