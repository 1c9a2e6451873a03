package core

import (
	"iter"

	"riposte/api"
)

// nodes yields the nodes of a term, each before its kids. A term that holds itself has no end of them.
func nodes(t api.Term) iter.Seq[api.Term] {
	return func(yield func(api.Term) bool) { each(t, yield) }
}

// each yields the nodes of a term as long as they are wanted, and reports whether more are.
func each(t api.Term, yield func(api.Term) bool) bool {
	if !yield(t) {
		return false
	}
	for _, kid := range t.Kids {
		if !each(kid, yield) {
			return false
		}
	}
	return true
}

// renumbered returns a term in which the identifiers of its arena have other numbers.
func renumbered(t api.Term, to []int) api.Term {
	if t.Id >= 1 && t.Id <= len(to) {
		t.Id = to[t.Id-1]
	}
	kids := t.Kids
	t.Kids = nil
	for _, kid := range kids {
		t.Kids = append(t.Kids, renumbered(kid, to))
	}
	return t
}
