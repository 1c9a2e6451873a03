package core

import (
	"math/rand/v2"

	"riposte/api"
)

// termMaker makes random terms that are right, as long as there are nodes left.
type termMaker struct {
	*rand.Rand
	left   int
	ids    []identifier
	labels int
}

// anyArena returns a random arena with sizes up to 3. Root is no cell.
func anyArena(r *rand.Rand) api.Arena {
	base := func(cells int) api.Base { return api.Base{Cell: r.IntN(3) < cells, N: 1 + r.IntN(3)} }
	a := api.Arena{Root: base(0), Jumps: r.IntN(2) == 0}
	for range r.IntN(6) {
		id := api.Type{Result: base(1)}
		if !id.Result.Cell {
			for range r.IntN(3) {
				id.Params = append(id.Params, base(1))
			}
		}
		a.Ids = append(a.Ids, id)
	}
	return a
}

// anyTerm returns a random term in a random arena.
func anyTerm(r *rand.Rand) (api.Arena, api.Term) {
	a := anyArena(r)
	return a, (&termMaker{Rand: r, left: r.IntN(40)}).in(a)
}

// in returns a term that is right in an arena.
func (m *termMaker) in(a api.Arena) api.Term {
	for _, id := range a.Ids {
		m.ids = append(m.ids, identifier{Type: id})
	}
	return m.arg(a.Root)
}

// with makes a term in which one more identifier is in sight.
func (m *termMaker) with(id identifier, make func() api.Term) api.Term {
	m.ids = append(m.ids, id)
	defer func() { m.ids = m.ids[:len(m.ids)-1] }()
	return make()
}

// among returns a number of an identifier of which something is so, 0 if there is none.
func (m *termMaker) among(is func(identifier) bool) int {
	for _, i := range m.Perm(len(m.ids)) {
		if is(m.ids[i]) {
			return i + 1
		}
	}
	return 0
}

// cell returns a cell of a size, 0 if there is none.
func (m *termMaker) cell(size int) int {
	return m.among(func(x identifier) bool { return x.Result == api.Base{Cell: true, N: size} })
}

// leaf returns a term without kids.
func (m *termMaker) leaf(size int) api.Term {
	switch m.IntN(5) {
	case 0:
		if id := m.cell(size); id > 0 {
			return api.Term{Kind: api.TermGet, Id: id}
		}
	case 1:
		if id := m.among(func(x identifier) bool { return x.by == api.TermObject && x.Result.N == size }); id > 0 {
			return api.Term{Kind: api.TermVal, Id: id}
		}
	case 2:
		if m.labels > 0 && size == 1 {
			return api.Term{Kind: api.TermJump, N: m.IntN(m.labels)}
		}
	case 3:
		if size == 1 {
			return api.Term{Kind: api.TermHang}
		}
	}
	return num(m.IntN(size), size)
}

// arg returns an argument for a base type.
func (m *termMaker) arg(b api.Base) api.Term {
	if !b.Cell {
		return m.term(b.N)
	}
	if id := m.cell(b.N); id > 0 && m.IntN(2) == 0 {
		return api.Term{Kind: api.TermCell, Id: id}
	}
	first := m.term(b.N)
	value := identifier{api.Type{Result: api.Base{N: b.N}}, api.TermObject}
	return kids(api.Term{Kind: api.TermObject}, first, m.with(value, func() api.Term { return m.term(1) }))
}

// term returns a term of a size.
func (m *termMaker) term(size int) api.Term {
	m.left--
	if m.left < 0 {
		return m.leaf(size)
	}
	some := 1 + m.IntN(3)
	switch m.IntN(12) {
	case 0:
		return kids(api.Term{Kind: api.TermSeq}, m.term(1), m.term(size))
	case 1:
		return kids(api.Term{Kind: api.TermIf}, m.term(some), m.term(size), m.term(size))
	case 2:
		return kids(api.Term{Kind: api.TermChoose}, m.term(size), m.term(size))
	case 3:
		return kids(api.Term{Kind: api.TermAs, N: size}, m.term(some))
	case 4:
		m.labels++
		first := m.term(size)
		m.labels--
		return kids(api.Term{Kind: api.TermLabel}, first, m.term(size))
	case 5:
		cell := identifier{api.Type{Result: api.Base{Cell: true, N: some}}, api.TermNew}
		return kids(api.Term{Kind: api.TermNew, N: some, M: m.IntN(some)}, m.with(cell, func() api.Term { return m.term(size) }))
	case 6:
		if id := m.among(func(x identifier) bool { return x.by == api.TermNew }); id > 0 {
			return kids(api.Term{Kind: api.TermNotice, Id: id, N: m.IntN(m.ids[id-1].Result.N)}, m.term(size))
		}
	case 7, 8, 9:
		if id := m.among(func(x identifier) bool { return x.by == 0 && x.Result == api.Base{N: size} }); id > 0 {
			u := api.Term{Kind: api.TermUse, Id: id}
			for _, p := range m.ids[id-1].Params {
				u.Kids = append(u.Kids, m.arg(p))
			}
			return u
		}
	}
	return m.operation(size, some)
}

// operation returns a term of a size that has a kind of its own.
func (m *termMaker) operation(size, some int) api.Term {
	id := m.cell(some)
	switch {
	case size == 1 && id > 0:
		return kids(api.Term{Kind: api.TermPut, Id: id}, m.term(some))
	case size == 1 && m.IntN(3) == 0:
		return kids(api.Term{Kind: api.TermWhile}, m.term(some), m.term(1))
	case size == 2 && m.IntN(2) == 0:
		return kids(api.Term{Kind: api.TermOp, N: api.OpEq + m.IntN(2), M: some}, m.term(some), m.term(some))
	}
	return kids(api.Term{Kind: api.TermOp, N: api.OpAdd + m.IntN(3), M: size}, m.term(size), m.term(size))
}

// spoiled returns a term in which some number, or some kid, is another one.
func spoiled(r *rand.Rand, u api.Term) api.Term {
	l := append([]api.Term{}, u.Kids...)
	u.Kids = l
	if len(l) > 0 && r.IntN(5) > 0 {
		k := r.IntN(len(l))
		l[k] = spoiled(r, l[k])
		return u
	}
	switch r.IntN(6) {
	case 0:
		u.N += r.IntN(5) - 2
	case 1:
		u.M += r.IntN(5) - 2
	case 2:
		u.Id += r.IntN(5) - 2
	case 3:
		u.Kind = uint8(r.IntN(20))
	case 4:
		if len(l) > 0 {
			k := r.IntN(len(l))
			u.Kids = append(l, l[k])[r.IntN(2):]
		}
	default:
		if len(l) > 0 {
			return l[r.IntN(len(l))]
		}
	}
	return u
}
