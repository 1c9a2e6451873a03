package auto

import (
	"maps"
	"slices"

	"riposte/api"
)

// sets are the sets of states of a net that were reached, in the order in which they were.
type sets struct {
	net
	list    [][]int
	numbers map[string]int
}

// made returns the canonical automaton with the words of a net. Error: ErrLimit (more sets can be reached than there may be, or the automaton is too great).
func (n net) made(most int) (api.Auto, api.Errno) {
	s := &sets{net: n, numbers: map[string]int{}}
	s.number(n.first)
	var x api.Auto
	for i := 0; i < len(s.list); i++ {
		edges, final := s.step(s.list[i])
		if len(s.list) > most {
			return api.Auto{}, api.ErrLimit
		}
		x.Next = append(x.Next, edges)
		x.Final = append(x.Final, final)
	}
	x = canonical(x)
	if isGreat(x) {
		return api.Auto{}, api.ErrLimit
	}
	return x, api.OK
}

// step returns the edges from a set to sets, and whether the set is final.
func (s *sets) step(set []int) ([]api.Edge, bool) {
	all := s.inSilence(set)
	steps := map[api.Move][]int{}
	for _, p := range all {
		for _, e := range s.edges(p) {
			steps[e.Move] = append(steps[e.Move], e.To)
		}
	}
	edges := make([]api.Edge, 0, len(steps))
	for _, m := range slices.SortedFunc(maps.Keys(steps), compare) {
		edges = append(edges, api.Edge{Move: m, To: s.number(steps[m])})
	}
	return edges, slices.ContainsFunc(all, s.final)
}

// inSilence returns the states of a set, and those that are reached from them by silent edges.
func (s *sets) inSilence(set []int) []int {
	all := slices.Clone(set)
	seen := map[int]bool{}
	for _, p := range set {
		seen[p] = true
	}
	for n := 0; n < len(all); n++ {
		for _, p := range s.silent(all[n]) {
			if !seen[p] {
				seen[p] = true
				all = append(all, p)
			}
		}
	}
	return all
}

// number returns the number of a set, which is reached now if it was not before. States may come in any order, and twice.
func (s *sets) number(states []int) int {
	set := slices.Compact(slices.Sorted(slices.Values(states)))
	k := key(set)
	n, ok := s.numbers[k]
	if !ok {
		n = len(s.list)
		s.numbers[k] = n
		s.list = append(s.list, set)
	}
	return n
}

// key returns what a set is known by, four bytes for each state.
func key(set []int) string {
	var k []byte
	for _, p := range set {
		k = append(k, byte(p>>24), byte(p>>16), byte(p>>8), byte(p))
	}
	return string(k)
}
