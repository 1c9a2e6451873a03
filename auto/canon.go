package auto

import (
	"slices"

	"riposte/api"
	"riposte/arena"
)

// isGreat reports whether an automaton is greater than one may be.
func isGreat(x api.Auto) bool {
	if len(x.Next) > api.MaxStates || len(x.Final) > api.MaxStates {
		return true
	}
	many := 0
	for _, edges := range x.Next {
		many += len(edges)
	}
	return many > api.MaxEdges
}

// isRaw reports whether an automaton is raw.
func isRaw(x api.Auto) bool {
	if len(x.Next) == 0 || len(x.Next) != len(x.Final) {
		return false
	}
	leadsOut := func(e api.Edge) bool { return e.To < 0 || e.To >= len(x.Next) }
	return !slices.ContainsFunc(x.Next, func(edges []api.Edge) bool { return slices.ContainsFunc(edges, leadsOut) })
}

// isAscending reports whether the edges of each state ascend strictly by their moves.
func isAscending(x api.Auto) bool {
	for _, edges := range x.Next {
		for i, e := range edges {
			if i > 0 && !arena.Less(edges[i-1].Move, e.Move) {
				return false
			}
		}
	}
	return true
}

// isSame reports whether two automata are the same.
func isSame(x, y api.Auto) bool {
	return slices.Equal(x.Final, y.Final) && slices.EqualFunc(x.Next, y.Next, slices.Equal)
}

// compare orders moves.
func compare(a, b api.Move) int {
	switch {
	case a == b:
		return 0
	case arena.Less(a, b):
		return -1
	}
	return 1
}

// follow returns the state to which a move leads from a state of an automaton whose edges ascend.
func follow(x api.Auto, at int, m api.Move) (to int, ok bool) {
	edges := x.Next[at]
	n, ok := slices.BinarySearchFunc(edges, m, func(e api.Edge, m api.Move) int { return compare(e.Move, m) })
	if !ok {
		return 0, false
	}
	return edges[n].To, true
}

// sift returns the elements of a list that are kept.
func sift[T any](l []T, keep func(T) bool) []T {
	kept := make([]T, 0, len(l))
	for _, x := range l {
		if keep(x) {
			kept = append(kept, x)
		}
	}
	return kept
}

// canonical returns the canonical automaton with the words of one whose edges ascend. It may be greater than one may be.
func canonical(x api.Auto) api.Auto {
	ends := endings(x)
	isUseful := func(e api.Edge) bool { return ends[e.To] }
	useful := api.Auto{Final: x.Final}
	for _, edges := range x.Next {
		useful.Next = append(useful.Next, sift(edges, isUseful))
	}
	return numbered(useful, classes(useful))
}

// numbered returns the automaton of the classes of the states of another one, in the order in which they are first met.
func numbered(x api.Auto, class []int) api.Auto {
	number := map[int]int{class[0]: 0}
	met := []int{0} // a state of each class
	var made api.Auto
	for n := 0; n < len(met); n++ {
		var edges []api.Edge
		for _, e := range x.Next[met[n]] {
			to, ok := number[class[e.To]]
			if !ok {
				to = len(met)
				number[class[e.To]] = to
				met = append(met, e.To)
			}
			edges = append(edges, api.Edge{Move: e.Move, To: to})
		}
		made.Next = append(made.Next, edges)
		made.Final = append(made.Final, x.Final[met[n]])
	}
	return made
}
