package check

import (
	"riposte/api"
	"riposte/parse"
)

// identifiers returns the declarations of the identifiers of an export: all imports, then its params.
func (s *scope) identifiers(export int) []int {
	var l []int
	for item := range s.kids(0) {
		if s.is(item, api.ImportItem) {
			l = append(l, item)
		}
	}
	for kid := range s.kids(export) {
		if s.is(kid, api.ParamNode) {
			l = append(l, kid)
		}
	}
	return l
}

// Arena returns the arena of an export, and the names of its identifiers, with their types.
func Arena(t api.Tree, export string, jumps bool) (api.Arena, []api.Declared, api.Errno) {
	if _, e := Program(t); e != api.OK {
		return api.Arena{}, nil, e
	}
	s := scopeOf(t)
	n, e := parse.Find(t, export)
	if e != api.OK || !s.is(n, api.ExportItem) {
		return api.Arena{}, nil, api.ErrNone
	}
	ids := s.identifiers(n)
	if len(ids) > api.MaxIds {
		return api.Arena{}, nil, api.ErrLimit
	}
	a := api.Arena{Root: s.result(n), Jumps: jumps}
	var l []api.Declared
	for _, d := range ids {
		// Both results have a type of their own: they share no memory.
		one, other := s.written(d+1), s.written(d+1)
		if len(one.Params) > api.MaxParams {
			return api.Arena{}, nil, api.ErrLimit
		}
		a.Ids = append(a.Ids, one)
		l = append(l, api.Declared{Name: s.Nodes[d].Text, Type: other})
	}
	return a, l, api.OK
}
