package check

import "riposte/api"

// rule is what is so of the terms of some kinds: their own size (0 is none), whether they fit a size that they are given, and what their kids are given then.
type rule struct {
	own  func(f *fit, n int) int
	fits func(f *fit, n, size int) bool
	give func(f *fit, n, size int)
}

// rules returns the rules of all kinds of terms.
func rules() map[uint8]rule {
	l := map[uint8]rule{}
	of := func(r rule, kinds ...uint8) {
		for _, kind := range kinds {
			l[kind] = r
		}
	}
	of(rule{always(0), (*fit).isBelow, (*fit).giveAll}, api.NumNode)
	of(rule{always(2), only(2), (*fit).giveAll}, api.TrueNode, api.FalseNode, api.OrNode, api.AndNode, api.NotNode)
	of(rule{always(1), only(1), (*fit).giveAll}, api.SkipNode, api.HangNode, api.JumpNode)
	of(rule{sizeOf(integer), meaning(integer), (*fit).giveAll}, api.NameNode)
	of(rule{sizeOf(cell), meaning(cell), (*fit).giveAll}, api.GetNode)
	of(rule{always(1), (*fit).putFits, (*fit).givePut}, api.PutNode)
	of(rule{(*fit).ownOfLast, whatever, (*fit).giveSeq}, api.SeqNode)
	of(rule{ownFrom(1), whatever, (*fit).giveIf}, api.IfNode)
	of(rule{always(1), only(1), (*fit).giveWhile}, api.WhileNode)
	of(rule{ownFrom(0), whatever, (*fit).giveAll}, api.NewNode, api.LabelNode, api.ChooseNode, api.AddNode, api.SubNode, api.MulNode)
	of(rule{ownFrom(0), (*fit).noticeFits, (*fit).giveAll}, api.NoticeNode)
	of(rule{always(2), (*fit).comparisonFits, (*fit).giveComparison}, api.EqNode, api.LessNode)
	of(rule{(*fit).number, (*fit).isNumber, (*fit).giveAs}, api.AsNode)
	of(rule{(*fit).ownOfCall, (*fit).callFits, (*fit).giveCall}, api.CallNode)
	return l
}

// always returns the own size of terms that always have the same one.
func always(size int) func(*fit, int) int {
	return func(*fit, int) int { return size }
}

// sizeOf returns the own size of terms with a name: that of what they mean, if it is of a type that is made of a size.
func sizeOf(typed func(size int) api.Type) func(*fit, int) int {
	return func(f *fit, n int) int {
		t, ok := f.typeAt(n)
		if !ok || !same(t, typed(t.Result.N)) {
			return 0
		}
		return t.Result.N
	}
}

// ownFrom returns the own size of terms that have that of the first of their kids, from one on, that has one.
func ownFrom(first int) func(*fit, int) int {
	return func(f *fit, n int) int { return f.own(f.row(n)[first:]...) }
}

// ownOfLast, number and ownOfCall are own sizes of other terms.
func (f *fit) ownOfLast(n int) int {
	l := f.row(n)
	return f.own(l[len(l)-1])
}

func (f *fit) number(n int) int { return f.Nodes[n].N }

func (f *fit) ownOfCall(n int) int {
	d, ok := f.means(n)
	if !ok {
		return 0
	}
	return f.result(d).N
}

// only reports whether terms fit that can have one size alone.
func only(size int) func(*fit, int, int) bool {
	return func(_ *fit, _, given int) bool { return given == size }
}

// meaning reports whether terms fit that must mean something of a type that is made of the size.
func meaning(typed func(size int) api.Type) func(*fit, int, int) bool {
	return func(f *fit, n, size int) bool { return f.meansOne(n, typed(size)) }
}

// whatever and the others report whether other terms fit.
func whatever(*fit, int, int) bool { return true }

func (f *fit) isBelow(n, size int) bool { return f.Nodes[n].N < size }

func (f *fit) isNumber(n, size int) bool { return f.Nodes[n].N == size }

func (f *fit) putFits(n, size int) bool {
	t, ok := f.typeAt(n)
	return ok && same(t, cell(t.Result.N)) && size == 1
}

func (f *fit) noticeFits(n, _ int) bool {
	d, ok := f.means(n)
	return ok && f.is(d, api.NewNode) && f.Nodes[d].N > f.Nodes[n].N
}

func (f *fit) comparisonFits(n, size int) bool { return size == 2 && f.own(f.row(n)...) > 0 }

// callFits reports whether a call fits. It has an argument, so what it means has params if it has as many.
func (f *fit) callFits(n, size int) bool {
	d, ok := f.means(n)
	return ok && len(f.params(d)) == len(f.row(n)) && f.result(d).N == size
}

// giveAll gives all kids, if there are any, the size that the term is given.
func (f *fit) giveAll(n, size int) { f.give(size, f.row(n)...) }

// givePut and the others give the kids of other terms their sizes.
func (f *fit) givePut(n, _ int) {
	t, _ := f.typeAt(n)
	f.giveAll(n, t.Result.N)
}

func (f *fit) giveSeq(n, size int) {
	l := f.row(n)
	last := len(l) - 1
	f.give(1, l[:last]...)
	f.give(size, l[last])
}

func (f *fit) giveIf(n, size int) {
	l := f.row(n)
	f.giveOwn(l[0])
	f.give(size, l[1:]...)
}

func (f *fit) giveWhile(n, _ int) {
	l := f.row(n)
	f.giveOwn(l[0])
	f.give(1, l[1])
}

func (f *fit) giveComparison(n, _ int) { f.giveAll(n, f.own(f.row(n)...)) }

// giveAs gives the kid its own size. A NumNode is not looked at: it can be greater than the size.
func (f *fit) giveAs(n, size int) {
	if kid := n + 1; f.is(kid, api.NumNode) {
		f.sizes[kid] = size
	} else {
		f.giveOwn(kid)
	}
}

func (f *fit) giveCall(n, _ int) {
	d, _ := f.means(n)
	params := f.params(d)
	for i, kid := range f.row(n) {
		f.argument(kid, params[i])
	}
}
