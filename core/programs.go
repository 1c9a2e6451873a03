package core

import (
	"riposte/api"
	"riposte/check"
)

// program is a program without an error, with the arena of an export, how its nodes become terms, the sizes that were asked for, and how many nodes were taken and made.
type program struct {
	api.Tree
	arena       api.Arena
	rules       map[uint8]rule
	sizes       map[int]int
	taken, made int
}

// maker makes a term.
type maker func() api.Term

// tooMany is the panic where more nodes are taken, or made, than there may be.
type tooMany struct{}

// attempt returns the term that is made, or the error if there are too many nodes.
func attempt(make maker) (t api.Term, e api.Errno) {
	defer func() {
		switch recover().(type) {
		case nil: // it is made
		case tooMany:
			e = api.ErrLimit
		}
	}()
	return make(), api.OK
}

// term returns the term of an export.
func (p *program) term(export int) node {
	x := node{program: p}
	imports := 0
	for _, item := range x.row() {
		switch item.kind() {
		case api.ImportItem:
			imports++
			x = x.with(item.n, meaning{kind: api.TermUse, number: imports})
		case api.DefItem: // one behind the export is meant by nothing in it
			x = x.with(item.n, meaning{node: item.n, names: x.names})
		}
	}
	x.n, x.ids = export, imports
	for _, kid := range x.row() {
		if kid.kind() == api.ParamNode {
			x = x.bring(kid.n, api.TermUse)
		}
	}
	return x.last()
}

// sizeOf returns the size that a term is given. Only the sizes that are needed are looked for: each takes a look at a whole item.
func (p *program) sizeOf(n int) int {
	size, known := p.sizes[n]
	if !known {
		size, _ = check.Size(p.Tree, n)
		p.sizes[n] = size
	}
	return size
}

// build returns what makes a term of its kids, one after the other.
func (p *program) build(t api.Term, kids ...maker) maker {
	return func() api.Term {
		p.made++
		if p.made > api.MaxCore {
			panic(tooMany{})
		}
		made := t
		for _, kid := range kids {
			made.Kids = append(made.Kids, kid())
		}
		return made
	}
}

// integer returns what makes an integer of a size.
func (p *program) integer(n, size int) maker {
	return p.build(api.Term{Kind: api.TermNum, N: n, M: size})
}
