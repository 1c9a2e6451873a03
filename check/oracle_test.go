package check

import (
	"cmp"
	"slices"

	"riposte/api"
	"riposte/parse"
)

// book is a right tree that is read as the chapter words it: each node asks what stands above it what it is given.
type book struct {
	l    []api.TreeNode
	kids [][]int
	ups  []int
	errs map[int]bool // what bad has said
}

func bookOf(u api.Tree) *book {
	b := &book{l: u.Nodes, ups: make([]int, len(u.Nodes)), errs: map[int]bool{}}
	for n := range u.Nodes {
		kids, _ := parse.Kids(u, n)
		b.kids = append(b.kids, kids)
		for _, kid := range kids {
			b.ups[kid] = n
		}
	}
	return b
}

// kid returns a kid of a node: from the last one, if the number is below 0.
func (b *book) kid(n, i int) int { return b.kids[n][(i+len(b.kids[n]))%len(b.kids[n])] }

// in reports whether a node is another one, or below it.
func (b *book) in(n, other int) bool {
	for n > other {
		n = b.ups[n]
	}
	return n == other
}

func (b *book) item(n int) int {
	return b.kids[0][slices.IndexFunc(b.kids[0], func(i int) bool { return b.in(n, i) })]
}

func (b *book) declares(n int) bool {
	return slices.Contains([]uint8{api.ImportItem, api.DefItem, api.ExportItem, api.ParamNode, api.NewNode, api.LabelNode, api.BindNode}, b.l[n].Kind)
}

func (b *book) names(n int) bool {
	return slices.Contains([]uint8{api.NameNode, api.CallNode, api.GetNode, api.PutNode, api.NoticeNode, api.JumpNode}, b.l[n].Kind)
}

func (b *book) term(n int) bool { return b.l[n].Kind >= api.SeqNode && b.l[n].Kind <= api.CallNode }

// sees reports whether a declaration is in sight at a node.
func (b *book) sees(n, d int) bool {
	switch b.l[d].Kind {
	case api.ImportItem, api.DefItem:
		return n > d && !b.in(n, d)
	case api.ParamNode:
		return b.in(n, b.kid(b.ups[d], -1))
	case api.NewNode, api.LabelNode:
		return b.in(n, b.kid(d, 0))
	case api.BindNode:
		return b.in(n, b.kid(b.ups[d], -1))
	}
	return false
}

func (b *book) sight(n int) (l []int) {
	for d := range b.l {
		if b.declares(d) && b.sees(n, d) {
			l = append(l, d)
		}
	}
	return l
}

// means returns what a node means; 0 is nothing.
func (b *book) means(n int) int {
	most := 0
	if !b.names(n) {
		return 0
	}
	for _, d := range b.sight(n) {
		label := b.l[d].Kind == api.LabelNode
		if b.l[d].Text == b.l[n].Text && label == (b.l[n].Kind == api.JumpNode) {
			most = max(most, d)
		}
	}
	return most
}

func (b *book) base(n int) api.Base { return api.Base{Cell: b.l[n].Kind == api.CellType, N: b.l[n].N} }

func (b *book) says(n int) (t api.Type) {
	for _, kid := range b.kids[n] {
		t.Params = append(t.Params, t.Result)
		t.Result = b.base(kid)
	}
	if len(b.kids[n]) == 0 {
		return api.Type{Result: b.base(n)}
	}
	t.Params = t.Params[1:]
	return t
}

// paramsOf returns the types of the params of what is called, and what comes of it.
func (b *book) paramsOf(d int) (l []api.Type, result api.Base) {
	if kids := b.kids[d]; b.l[d].Kind == api.DefItem {
		for _, kid := range kids[:len(kids)-2] {
			l = append(l, b.says(b.kid(kid, 0)))
		}
		return l, b.base(kids[len(kids)-2])
	}
	t, _ := b.typ(d)
	for _, x := range t.Params {
		l = append(l, api.Type{Result: x})
	}
	return l, t.Result
}

// param returns the type of the param that an argument stands for.
func (b *book) param(arg int) (api.Type, bool) {
	call := b.ups[arg]
	d := b.means(call)
	if d == 0 {
		return api.Type{}, false
	}
	l, _ := b.paramsOf(d)
	k := slices.Index(b.kids[call], arg)
	if k >= len(l) {
		return api.Type{}, false
	}
	return l[k], true
}

func (b *book) typ(d int) (t api.Type, ok bool) {
	up := b.ups[d]
	switch b.l[d].Kind {
	case api.ImportItem, api.ParamNode:
		return b.says(b.kid(d, 0)), true
	case api.NewNode:
		return api.Type{Result: api.Base{Cell: true, N: b.l[d].N}}, true
	case api.DefItem, api.ExportItem:
		for _, kid := range b.kids[d] {
			if b.l[kid].Kind == api.ParamNode && b.l[b.kid(kid, 0)].Kind == api.ArrowType {
				return api.Type{}, false
			}
			if b.l[kid].Kind == api.ParamNode {
				t.Params = append(t.Params, b.base(b.kid(kid, 0)))
			}
		}
		t.Result = b.base(b.kid(d, -2))
		return t, true
	case api.BindNode:
		p, ok := b.param(up)
		switch {
		case !ok:
		case b.l[up].Kind == api.FnNode && b.l[b.means(b.ups[up])].Kind == api.DefItem && len(p.Params) == len(b.kids[up])-1:
			return api.Type{Result: p.Params[slices.Index(b.kids[up], d)]}, true
		case b.l[up].Kind == api.ObjectNode && len(p.Params) == 0 && p.Result.Cell:
			return api.Type{Result: api.Base{N: p.Result.N}}, true
		}
	}
	return api.Type{}, false
}

// meansOf reports whether a node means an integer, or a cell, and of which size.
func (b *book) meansOf(n int, cell bool) (int, bool) {
	d := b.means(n)
	if d == 0 {
		return 0, false
	}
	t, ok := b.typ(d)
	return t.Result.N, ok && len(t.Params) == 0 && t.Result.Cell == cell
}

// own returns the own size of a term.
func (b *book) own(n int) int {
	switch b.l[n].Kind {
	case api.TrueNode, api.FalseNode, api.OrNode, api.AndNode, api.NotNode, api.EqNode, api.LessNode:
		return 2
	case api.SkipNode, api.HangNode, api.JumpNode, api.WhileNode, api.PutNode:
		return 1
	case api.AsNode:
		return b.l[n].N
	case api.GetNode, api.NameNode:
		if size, ok := b.meansOf(n, b.l[n].Kind == api.GetNode); ok {
			return size
		}
	case api.CallNode:
		if d := b.means(n); d > 0 {
			_, result := b.paramsOf(d)
			return result.N
		}
	case api.NewNode, api.NoticeNode, api.SeqNode:
		return b.own(b.kid(n, -1))
	case api.LabelNode, api.ChooseNode, api.AddNode, api.SubNode, api.MulNode:
		return cmp.Or(b.own(b.kid(n, 0)), b.own(b.kid(n, 1)))
	case api.IfNode:
		return cmp.Or(b.own(b.kid(n, 1)), b.own(b.kid(n, 2)))
	}
	return 0
}

// Ways in which a term or an argument is given a size.
const (
	bySize = iota // a size
	byOwn         // its own one
	byArg         // as an argument
	byNone        // it is not looked at
)

// given returns how a term, or an argument, is given its size, and which.
func (b *book) given(n int) (way, size int) {
	up := b.ups[n]
	k := slices.Index(b.kids[up], n)
	last := k == len(b.kids[up])-1
	ofUp := func() (int, int) {
		_, size := b.given(up)
		return bySize, size
	}
	switch b.l[up].Kind {
	case api.DefItem, api.ExportItem:
		return bySize, b.l[b.kid(up, -2)].N
	case api.SeqNode:
		if !last {
			return bySize, 1
		}
	case api.IfNode:
		if k == 0 {
			return byOwn, b.own(n)
		}
	case api.WhileNode:
		if k == 0 {
			return byOwn, b.own(n)
		}
		return bySize, 1
	case api.PutNode:
		size, _ := b.meansOf(up, true)
		return bySize, size
	case api.OrNode, api.AndNode, api.NotNode:
		return bySize, 2
	case api.EqNode, api.LessNode:
		return bySize, cmp.Or(b.own(b.kid(up, 0)), b.own(b.kid(up, 1)))
	case api.AsNode:
		if b.l[n].Kind == api.NumNode {
			return byNone, b.l[up].N
		}
		return byOwn, b.own(n)
	case api.CallNode:
		p, _ := b.param(n)
		return byArg, p.Result.N
	case api.FnNode:
		p, _ := b.param(up)
		return bySize, p.Result.N
	case api.ObjectNode:
		p, _ := b.param(up)
		if last {
			return bySize, 1
		}
		return bySize, p.Result.N
	}
	return ofUp()
}

// fits reports whether a term fits a size.
func (b *book) fits(n, s int) bool {
	x := b.l[n]
	switch x.Kind {
	case api.NumNode:
		return x.N < s
	case api.TrueNode, api.FalseNode, api.OrNode, api.AndNode, api.NotNode:
		return s == 2
	case api.SkipNode, api.HangNode, api.JumpNode, api.WhileNode:
		return s == 1
	case api.NameNode, api.GetNode:
		size, ok := b.meansOf(n, x.Kind == api.GetNode)
		return ok && size == s
	case api.PutNode:
		_, ok := b.meansOf(n, true)
		return ok && s == 1
	case api.NoticeNode:
		d := b.means(n)
		return b.l[d].Kind == api.NewNode && b.l[d].N > x.N
	case api.EqNode, api.LessNode:
		return s == 2 && (b.own(b.kid(n, 0)) > 0 || b.own(b.kid(n, 1)) > 0)
	case api.AsNode:
		return s == x.N
	case api.CallNode:
		d := b.means(n)
		if d == 0 {
			return false
		}
		l, result := b.paramsOf(d)
		return len(l) > 0 && len(l) == len(b.kids[n]) && result.N == s
	}
	return true
}

// argument reports whether an argument is one for its param.
func (b *book) argument(n int) bool {
	p, ok := b.param(n)
	if !ok {
		return false
	}
	sameAs := func() bool {
		d := b.means(n)
		if d == 0 {
			return false
		}
		t, ok := b.typ(d)
		return ok && t.Result == p.Result && slices.Equal(t.Params, p.Params)
	}
	switch {
	case len(p.Params) == 0 && !p.Result.Cell:
		return b.term(n) && b.fits(n, p.Result.N)
	case b.l[n].Kind == api.NameNode:
		return sameAs()
	case len(p.Params) == 0:
		return b.l[n].Kind == api.ObjectNode
	}
	return b.l[n].Kind == api.FnNode && len(b.kids[n]) == len(p.Params)+1
}

// bad reports whether a node is one of the fourth error, if what stands above it is none.
func (b *book) bad(n int) bool {
	if bad, ok := b.errs[n]; ok {
		return bad
	}
	b.errs[n] = b.isBad(n)
	return b.errs[n]
}

func (b *book) isBad(n int) bool {
	up := b.l[b.ups[n]].Kind
	if b.l[n].Kind == api.CellType {
		return up == api.DefItem || up == api.ExportItem
	}
	if !b.term(n) && up != api.CallNode {
		return false
	}
	switch way, size := b.given(n); way {
	case byNone:
		return false
	case byArg:
		return !b.argument(n)
	case byOwn:
		return size == 0 || !b.fits(n, size)
	default:
		return !b.fits(n, size)
	}
}

// looked reports whether nothing above a node is bad.
func (b *book) looked(n int) bool {
	for n = b.ups[n]; n > 0; n = b.ups[n] {
		if b.bad(n) {
			return false
		}
	}
	return true
}

// twice reports whether a declaration has a name that is there.
func (b *book) twice(n int) bool {
	if !b.declares(n) {
		return false
	}
	item := b.item(n)
	for d := range b.l {
		isItem := d > 0 && b.ups[d] == 0
		if b.declares(d) && b.l[d].Text == b.l[n].Text && (isItem && (d < n || n != item) || d < n && b.in(d, item)) {
			return true
		}
	}
	return false
}

// beyond reports whether a size is none.
func (b *book) beyond(n int) bool {
	x := b.l[n]
	size := x.N >= 1 && x.N <= 64
	switch x.Kind {
	case api.IntType, api.CellType, api.AsNode:
		return !size
	case api.NewNode:
		return !size || x.M >= x.N
	}
	return false
}

// error returns the error of an item.
func (b *book) error(item int) (int, api.Errno) {
	for _, x := range []struct {
		e  api.Errno
		is func(n int) bool
	}{
		{api.ErrTwice, b.twice}, {api.ErrRange, b.beyond},
		{api.ErrName, func(n int) bool { return b.names(n) && b.means(n) == 0 }},
		{api.ErrType, func(n int) bool { return b.bad(n) && b.looked(n) }},
	} {
		for n := range b.l {
			if b.in(n, item) && x.is(n) {
				return n, x.e
			}
		}
	}
	return 0, api.OK
}

// size returns the size that a term is given.
func (b *book) size(n int) (int, api.Errno) {
	if !b.term(n) {
		return 0, api.ErrNone
	}
	if _, e := b.error(b.item(n)); e != api.OK {
		return 0, e
	}
	way, size := b.given(n)
	if p, _ := b.param(n); way == byArg && (len(p.Params) > 0 || p.Result.Cell) {
		return 0, api.ErrNone
	}
	return size, api.OK
}

// reach returns the definitions that an item uses.
func (b *book) reach(item int) []int {
	var l []int
	for n := range b.l {
		if d := b.means(n); d > 0 && b.in(n, item) && b.l[d].Kind == api.DefItem && !slices.Contains(l, d) {
			l = append(append(l, d), b.reach(d)...)
		}
	}
	slices.Sort(l)
	return slices.Compact(l)
}

// effects returns the effects of an item.
func (b *book) effects(item int) int {
	bits := 0
	l := b.reach(item)
	for n, x := range b.l {
		if n == 0 || !b.in(n, item) && !slices.ContainsFunc(l, func(d int) bool { return b.in(n, d) }) {
			continue
		}
		switch x.Kind {
		case api.NewNode, api.GetNode, api.PutNode, api.NoticeNode:
			bits |= 1
		case api.JumpNode:
			bits |= 2
		case api.ChooseNode:
			bits |= 4
		case api.WhileNode:
			bits |= 8
		case api.HangNode:
			bits |= 16
		}
	}
	return bits
}
