package auto

import (
	"slices"

	"riposte/api"
)

// links are the edges of an automaton by their numbers: from which state each one leads, and which ones lead to each state.
type links struct {
	from []int
	into [][]int
}

// linksOf returns the links of an automaton.
func linksOf(x api.Auto) links {
	l := links{into: make([][]int, len(x.Next))}
	for p, edges := range x.Next {
		for _, e := range edges {
			l.into[e.To] = append(l.into[e.To], len(l.from))
			l.from = append(l.from, p)
		}
	}
	return l
}

// finals returns the final states.
func finals(x api.Auto) []int {
	var l []int
	for p, is := range x.Final {
		if is {
			l = append(l, p)
		}
	}
	return l
}

// endings tells of each state whether a final one can be reached from it.
func endings(x api.Auto) []bool {
	l, found, ends := linksOf(x), finals(x), slices.Clone(x.Final)
	for n := 0; n < len(found); n++ {
		for _, e := range l.into[found[n]] {
			if p := l.from[e]; !ends[p] {
				ends[p] = true
				found = append(found, p)
			}
		}
	}
	return ends
}

// classes returns the class of each state of an automaton: those of one class have the same words behind them. The edges of each state must have different moves, and lead to states from which a final one can be reached.
//
// States are split by the parts of the edges, and edges by the parts of the states to which they lead, until nothing can be split: what is still in one part cannot be told apart.
func classes(x api.Auto) []int {
	l := linksOf(x)
	states, edges := newRow(len(x.Next)), newRow(len(l.from))
	states.mark(finals(x)...)
	states.split()
	for _, same := range byMoves(x) {
		edges.mark(same...)
		edges.split()
	}
	done := 1 // the part 0 needs no turn: what leads to none of the others leads to it
	for n := 0; n < len(edges.parts); n++ {
		for _, e := range edges.part(n) {
			states.mark(l.from[e])
		}
		states.split()
		for ; done < len(states.parts); done++ {
			for _, p := range states.part(done) {
				edges.mark(l.into[p]...)
			}
			edges.split()
		}
	}
	return states.in
}

// byMoves returns the numbers of the edges with each move.
func byMoves(x api.Auto) [][]int {
	number := map[api.Move]int{}
	var l [][]int
	many := 0
	for _, edges := range x.Next {
		for _, e := range edges {
			n, ok := number[e.Move]
			if !ok {
				n = len(l)
				number[e.Move] = n
				l = append(l, nil)
			}
			l[n] = append(l[n], many)
			many++
		}
	}
	return l
}
