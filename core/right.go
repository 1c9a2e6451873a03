package core

import "riposte/api"

// wrong is the size of a term that is not right.
const wrong = 0

// identifier is one that is in sight: its type, and which kind of term has brought it, 0 if it is one of the arena.
type identifier struct {
	api.Type
	by uint8
}

// sight is what is in sight of a term.
type sight struct {
	ids    []identifier
	labels int
}

// checker finds the sizes of terms, by what is in sight.
type checker struct {
	sight
	shapes []shape
	sizes  map[uint8]func(*checker, api.Term) int
}

// isRight reports whether a term is right in an arena that is.
func isRight(a api.Arena, t api.Term) bool {
	c := &checker{shapes: shapes(), sizes: sizes()}
	for _, id := range a.Ids {
		c.ids = append(c.ids, identifier{Type: id})
	}
	return c.isArgument(t, a.Root)
}

// sizes returns how the size of a term of each kind is found. A cell and an object are no terms by themselves.
func sizes() map[uint8]func(*checker, api.Term) int {
	return map[uint8]func(*checker, api.Term) int{
		api.TermNum:    (*checker).num,
		api.TermUse:    (*checker).use,
		api.TermGet:    (*checker).get,
		api.TermPut:    (*checker).put,
		api.TermOp:     (*checker).operation,
		api.TermAs:     (*checker).as,
		api.TermSeq:    (*checker).sequence,
		api.TermIf:     (*checker).branch,
		api.TermWhile:  (*checker).loop,
		api.TermNew:    (*checker).cell,
		api.TermLabel:  (*checker).label,
		api.TermJump:   (*checker).jump,
		api.TermChoose: (*checker).choose,
		api.TermHang:   (*checker).hang,
		api.TermVal:    (*checker).value,
		api.TermNotice: (*checker).notice,
	}
}

// size returns the size of a term, or wrong.
func (c *checker) size(t api.Term) int {
	if _, ok := shaped(c.shapes, t); !ok {
		return wrong
	}
	if of, ok := c.sizes[t.Kind]; ok {
		return of(c, t)
	}
	return wrong
}

// isArgument reports whether a term is an argument for a base type.
func (c *checker) isArgument(t api.Term, b api.Base) bool {
	if !b.Cell {
		return c.size(t) == b.N
	}
	if _, ok := shaped(c.shapes, t); !ok {
		return false
	}
	switch t.Kind {
	case api.TermCell:
		return c.cellSize(t.Id) == b.N
	case api.TermObject:
		v := identifier{api.Type{Result: api.Base{N: b.N}}, api.TermObject}
		return c.size(t.Kids[0]) == b.N && c.sizeWith(v, t.Kids[1]) == 1
	}
	return false
}

// sizeWith returns the size of a term in which one more identifier is in sight.
func (c *checker) sizeWith(id identifier, t api.Term) int {
	around := c.sight
	c.ids = append(c.ids, id)
	size := c.size(t)
	c.sight = around
	return size
}

// named returns the identifier with a number, one without a size if there is none in sight.
func (c *checker) named(id int) identifier {
	if id < 1 || id > len(c.ids) {
		return identifier{}
	}
	return c.ids[id-1]
}

// cellSize returns the size of a cell that is in sight, or wrong. A cell is no result of what has params.
func (c *checker) cellSize(id int) int {
	x := c.named(id)
	if !x.Result.Cell {
		return wrong
	}
	return x.Result.N
}

// isSize reports whether a number is a size, isBelow whether one is from 0 on and less than another one.
func isSize(n int) bool { return n >= 1 && n <= api.MaxSize }

func isBelow(n, size int) bool { return n >= 0 && n < size }

// sizeIf returns a size, or wrong if something is not so.
func sizeIf(so bool, size int) int {
	if !so {
		return wrong
	}
	return size
}

func (c *checker) num(t api.Term) int {
	return sizeIf(isSize(t.M) && isBelow(t.N, t.M), t.M)
}

func (c *checker) use(t api.Term) int {
	x := c.named(t.Id)
	if x.by != 0 || x.Result.Cell || len(t.Kids) != len(x.Params) {
		return wrong
	}
	for i, kid := range t.Kids {
		if !c.isArgument(kid, x.Params[i]) {
			return wrong
		}
	}
	return x.Result.N
}

func (c *checker) get(t api.Term) int { return c.cellSize(t.Id) }

func (c *checker) put(t api.Term) int {
	size := c.cellSize(t.Id)
	return sizeIf(size != wrong && c.size(t.Kids[0]) == size, 1)
}

func (c *checker) operation(t api.Term) int {
	ok := isSize(t.M) && c.size(t.Kids[0]) == t.M && c.size(t.Kids[1]) == t.M
	if t.N == api.OpEq || t.N == api.OpLess {
		return sizeIf(ok, 2)
	}
	return sizeIf(ok, t.M)
}

func (c *checker) as(t api.Term) int {
	return sizeIf(isSize(t.N) && c.size(t.Kids[0]) != wrong, t.N)
}

func (c *checker) sequence(t api.Term) int {
	if c.size(t.Kids[0]) != 1 {
		return wrong
	}
	return c.size(t.Kids[1])
}

func (c *checker) branch(t api.Term) int {
	if c.size(t.Kids[0]) == wrong {
		return wrong
	}
	return c.common(t.Kids[1], t.Kids[2])
}

func (c *checker) loop(t api.Term) int {
	return sizeIf(c.size(t.Kids[0]) != wrong && c.size(t.Kids[1]) == 1, 1)
}

func (c *checker) cell(t api.Term) int {
	if !isSize(t.N) || !isBelow(t.M, t.N) {
		return wrong
	}
	return c.sizeWith(identifier{api.Type{Result: api.Base{Cell: true, N: t.N}}, api.TermNew}, t.Kids[0])
}

func (c *checker) label(t api.Term) int {
	c.labels++
	size := c.size(t.Kids[0])
	c.labels--
	return sizeIf(c.size(t.Kids[1]) == size, size)
}

func (c *checker) jump(t api.Term) int { return sizeIf(isBelow(t.N, c.labels), 1) }

func (c *checker) choose(t api.Term) int { return c.common(t.Kids[0], t.Kids[1]) }

// common returns the size that two terms have in common, or wrong.
func (c *checker) common(a, b api.Term) int {
	size := c.size(a)
	return sizeIf(c.size(b) == size, size)
}

func (c *checker) notice(t api.Term) int {
	x := c.named(t.Id)
	if x.by != api.TermNew || !isBelow(t.N, x.Result.N) {
		return wrong
	}
	return c.size(t.Kids[0])
}

func (c *checker) hang(api.Term) int { return 1 }

func (c *checker) value(t api.Term) int {
	x := c.named(t.Id)
	return sizeIf(x.by == api.TermObject, x.Result.N)
}
