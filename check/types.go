package check

import (
	"slices"

	"riposte/api"
)

// integer returns the type of an integer, cell that of a cell for one.
func integer(size int) api.Type { return api.Type{Result: api.Base{N: size}} }

func cell(size int) api.Type { return api.Type{Result: api.Base{Cell: true, N: size}} }

// same reports whether two types are the same.
func same(a, b api.Type) bool { return a.Result == b.Result && slices.Equal(a.Params, b.Params) }

// base returns the base type that an IntType or a CellType says.
func (s *scope) base(n int) api.Base {
	return api.Base{Cell: s.is(n, api.CellType), N: s.Nodes[n].N}
}

// written returns the type that stands at a node.
func (s *scope) written(n int) api.Type {
	if !s.is(n, api.ArrowType) {
		return api.Type{Result: s.base(n)}
	}
	var bases []api.Base
	for kid := range s.kids(n) {
		bases = append(bases, s.base(kid))
	}
	last := len(bases) - 1
	return api.Type{Params: bases[:last], Result: bases[last]}
}

// typeOf returns the type of a declaration, and whether it has one.
func (s *scope) typeOf(d int) (api.Type, bool) {
	switch x := s.Nodes[d]; x.Kind {
	case api.ImportItem, api.ParamNode:
		return s.written(d + 1), true
	case api.DefItem, api.ExportItem:
		return s.defined(d)
	case api.NewNode:
		return cell(x.N), true
	case api.BindNode:
		return s.bound(d)
	}
	return api.Type{}, false
}

// defined returns the type of a DefItem or an ExportItem, and whether all its params are bases.
func (s *scope) defined(d int) (api.Type, bool) {
	t := api.Type{Result: s.result(d)}
	for _, p := range s.params(d) {
		if len(p.Params) > 0 {
			return api.Type{}, false
		}
		t.Params = append(t.Params, p.Result)
	}
	return t, true
}

// bound returns the type of a BindNode, and whether its argument is one for the param that it stands for.
func (s *scope) bound(n int) (api.Type, bool) {
	arg := s.ups[n]
	p := s.paramOf(arg)
	if s.is(arg, api.ObjectNode) {
		if !same(p, cell(p.Result.N)) {
			return api.Type{}, false
		}
		return integer(p.Result.N), true
	}
	l := s.row(arg)
	if len(p.Params) != len(l)-1 {
		return api.Type{}, false
	}
	return api.Type{Result: p.Params[slices.Index(l, n)]}, true
}

// paramOf returns the type of the param that an argument stands for. If there is none it is an integer of 0, for which no FnNode and no ObjectNode stands.
func (s *scope) paramOf(arg int) api.Type {
	call := s.ups[arg]
	d, ok := s.means(call)
	if !ok {
		return api.Type{}
	}
	params, k := s.params(d), slices.Index(s.row(call), arg)
	if k >= len(params) {
		return api.Type{}
	}
	return params[k]
}

// typeAt returns the type of what a node means, and whether there is one.
func (s *scope) typeAt(n int) (api.Type, bool) {
	d, ok := s.means(n)
	if !ok {
		return api.Type{}, false
	}
	return s.typeOf(d)
}

// meansOne reports whether a node means something of a type.
func (s *scope) meansOne(n int, t api.Type) bool {
	meant, ok := s.typeAt(n)
	return ok && same(meant, t)
}

// params returns the types of the params of a declaration.
func (s *scope) params(d int) []api.Type {
	var l []api.Type
	if s.is(d, api.DefItem, api.ExportItem) {
		for kid := range s.kids(d) {
			if s.is(kid, api.ParamNode) {
				l = append(l, s.written(kid+1))
			}
		}
		return l
	}
	t, _ := s.typeOf(d)
	for _, b := range t.Params {
		l = append(l, api.Type{Result: b})
	}
	return l
}

// result returns what comes of a declaration: the base of a DefItem or an ExportItem, otherwise the Result of its type.
func (s *scope) result(d int) api.Base {
	if s.is(d, api.DefItem, api.ExportItem) {
		base, _ := s.body(d)
		return s.base(base)
	}
	t, _ := s.typeOf(d)
	return t.Result
}

// body returns the base and the term of a DefItem or an ExportItem.
func (s *scope) body(item int) (base, term int) {
	l := s.row(item)
	return l[len(l)-2], l[len(l)-1]
}

// Type returns the type of a declaration.
func Type(t api.Tree, n int) (api.Type, api.Errno) {
	s, e := look(t, n)
	if e != api.OK {
		return api.Type{}, e
	}
	if !s.isDeclaration(n) || s.is(n, api.LabelNode) {
		return api.Type{}, api.ErrNone
	}
	typed, ok := s.typeOf(n)
	if !ok {
		return api.Type{}, api.ErrType
	}
	return typed, api.OK
}
