package auto

import (
	"slices"

	"riposte/api"
)

// net is an automaton by what it answers. A state may have several edges with the same move; a word goes on by silent edges without a move.
type net struct {
	first  []int
	edges  func(state int) []api.Edge
	silent func(state int) []int
	final  func(state int) bool
}

// netOf returns the net of a raw automaton with some first states.
func netOf(x api.Auto, first ...int) net {
	return net{
		first:  first,
		edges:  func(p int) []api.Edge { return x.Next[p] },
		silent: func(int) []int { return nil },
		final:  func(p int) bool { return x.Final[p] },
	}
}

// listed returns the net of some words. Its states are the places in them.
func listed(l []api.Word) net {
	const places = api.MaxWord + 1
	n := net{
		edges: func(p int) []api.Edge {
			if w, at := l[p/places], p%places; at < len(w) {
				return []api.Edge{{Move: w[at], To: p + 1}}
			}
			return nil
		},
		silent: func(int) []int { return nil },
		final:  func(p int) bool { return p%places == len(l[p/places]) },
	}
	for i := range l {
		n.first = append(n.first, i*places)
	}
	return n
}

// lone returns an automaton of one state without edges.
func lone(final bool) api.Auto {
	return api.Auto{Next: [][]api.Edge{nil}, Final: []bool{final}}
}

// beside returns automata beside each other: the states of each one have their numbers behind those of the ones before.
func beside(l ...api.Auto) api.Auto {
	var all api.Auto
	for _, x := range l {
		before := len(all.Next)
		for _, edges := range x.Next {
			edges = slices.Clone(edges)
			for i := range edges {
				edges[i].To += before
			}
			all.Next = append(all.Next, edges)
		}
		all.Final = append(all.Final, x.Final...)
	}
	return all
}

func union(x, y api.Auto) net { return netOf(beside(x, y), 0, len(x.Next)) }

func both(x, y api.Auto) net {
	isOne := func(q int) bool { return q < len(y.Next) }
	return pairs(x, y, isOne, func(inX, inY bool) bool { return inX && inY })
}

func without(x, y api.Auto) net {
	isAny := func(int) bool { return true }
	return pairs(x, y, isAny, func(inX, inY bool) bool { return inX && !inY })
}

// pairs returns the net of the pairs of a state of x and one of y, or none, which has the number behind those of y's states. Words go on with those of y that are kept.
func pairs(x, y api.Auto, keep func(q int) bool, final func(inX, inY bool) bool) net {
	none, many := len(y.Next), len(y.Next)+1
	y = beside(y, lone(false))
	n := netOf(x, 0)
	n.edges = func(p int) []api.Edge {
		var l []api.Edge
		for _, e := range x.Next[p/many] {
			q, ok := follow(y, p%many, e.Move)
			if !ok {
				q = none
			}
			if keep(q) {
				l = append(l, api.Edge{Move: e.Move, To: e.To*many + q})
			}
		}
		return l
	}
	n.final = func(p int) bool { return final(x.Final[p/many], y.Final[p%many]) }
	return n
}

// chain returns the net in which y goes on where x ends.
func chain(x, y api.Auto) net {
	firstY := len(x.Next)
	all := beside(x, y)
	n := netOf(all, 0)
	n.silent = func(p int) []int {
		if p < firstY && all.Final[p] {
			return []int{firstY}
		}
		return nil
	}
	n.final = func(p int) bool { return p >= firstY && all.Final[p] }
	return n
}

// star returns the net in which x begins anew where it ends.
func star(x api.Auto) net {
	all := beside(x, lone(true))
	n := netOf(all, len(x.Next))
	n.silent = func(p int) []int {
		if all.Final[p] {
			return []int{0}
		}
		return nil
	}
	return n
}

// hide returns the net in which the moves of some identifiers are silent.
func hide(x api.Auto, ids []int) net {
	hidden := map[int]bool{}
	for _, id := range ids {
		hidden[id] = true
	}
	n := netOf(x, 0)
	n.edges = func(p int) []api.Edge {
		return sift(x.Next[p], func(e api.Edge) bool { return !hidden[e.Move.Id] })
	}
	n.silent = func(p int) []int {
		var l []int
		for _, e := range x.Next[p] {
			if hidden[e.Move.Id] {
				l = append(l, e.To)
			}
		}
		return l
	}
	return n
}
