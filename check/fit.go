package check

import "riposte/api"

// fit is a scope with an item in which all terms are given sizes, from its own term down to what is no longer looked at.
type fit struct {
	*scope
	item    int
	rules   map[uint8]rule
	sizes   map[int]int  // of terms that are given one
	misfits map[int]bool // nodes that cannot stand where they stand
}

// fitOf returns the fit of an item.
func fitOf(s *scope, item int) *fit {
	f := &fit{scope: s, item: item, rules: rules(), sizes: map[int]int{}, misfits: map[int]bool{}}
	if s.is(item, api.ImportItem) {
		return f
	}
	base, term := s.body(item)
	f.misfits[base] = s.is(base, api.CellType)
	f.give(s.Nodes[base].N, term)
	return f
}

// give gives terms a size.
func (f *fit) give(size int, terms ...int) {
	for _, n := range terms {
		f.sizes[n] = size
		r := f.rules[f.Nodes[n].Kind]
		if !r.fits(f, n, size) {
			f.misfits[n] = true
			continue
		}
		r.give(f, n, size)
	}
}

// giveOwn gives a term its own size.
func (f *fit) giveOwn(n int) {
	size := f.own(n)
	if size == 0 {
		f.misfits[n] = true
		return
	}
	f.give(size, n)
}

// own returns the own size of the first of some terms that has one; 0 if none has.
func (f *fit) own(terms ...int) int {
	for _, n := range terms {
		if size := f.rules[f.Nodes[n].Kind].own(f, n); size > 0 {
			return size
		}
	}
	return 0
}

// argument gives the terms of an argument for a param of some type their sizes, if it is one for this param.
func (f *fit) argument(n int, p api.Type) {
	size, l := p.Result.N, f.row(n)
	switch {
	case f.isTerm(n) && same(p, integer(size)):
		f.give(size, n)
	case f.is(n, api.NameNode) && f.meansOne(n, p): // it stands for what it means, and has no size
	case f.is(n, api.ObjectNode) && same(p, cell(size)):
		f.give(size, l[0])
		f.give(1, l[2])
	case f.is(n, api.FnNode) && len(p.Params) == len(l)-1:
		f.give(size, l[len(l)-1])
	default:
		f.misfits[n] = true
	}
}

// Size returns the size that a term is given.
func Size(t api.Tree, n int) (int, api.Errno) {
	s, e := look(t, n)
	if e != api.OK {
		return 0, e
	}
	if !s.isTerm(n) {
		return 0, api.ErrNone
	}
	f := fitOf(s, s.itemOf(n))
	if _, e := f.firstFault(); e != api.OK {
		return 0, e
	}
	size, ok := f.sizes[n]
	if !ok {
		return 0, api.ErrNone
	}
	return size, api.OK
}
