package parse

import "riposte/api"

// or, and, not, test, sum, product, cast and atom read what the grammar calls so.
func (r *reader) or() *knot { return r.chain(r.and, api.OrNode) }

func (r *reader) and() *knot { return r.chain(r.not, api.AndNode) }

func (r *reader) not() *knot {
	if k, ok := r.operation(api.NotNode); ok {
		k.kids = []*knot{r.not()}
		return k
	}
	return r.test()
}

func (r *reader) test() *knot {
	left := r.sum()
	if k, ok := r.operation(api.EqNode, api.LessNode); ok {
		k.kids = []*knot{left, r.sum()}
		return k
	}
	return left
}

func (r *reader) sum() *knot { return r.chain(r.product, api.AddNode, api.SubNode) }

func (r *reader) product() *knot { return r.chain(r.cast, api.MulNode) }

// chain reads operands with operations of some kinds between them, which stand to the left.
func (r *reader) chain(operand func() *knot, kinds ...uint8) *knot {
	left := operand()
	for {
		k, ok := r.operation(kinds...)
		if !ok {
			return left
		}
		k.kids = []*knot{left, operand()}
		left = k
	}
}

func (r *reader) cast() *knot {
	left := r.atom()
	for {
		k, ok := r.operation(api.AsNode)
		if !ok {
			return left
		}
		k.N = r.number()
		k.kids = []*knot{left}
		left = k
	}
}

func (r *reader) atom() *knot {
	if k, ok := r.operation(api.TrueNode, api.FalseNode, api.SkipNode, api.HangNode); ok {
		return k
	}
	t := r.ahead(0)
	switch {
	case t.Kind == api.TokNumber:
		k := tie(api.NumNode, t.At)
		k.N = r.number()
		return k
	case r.sees("jump"):
		return r.declared(api.JumpNode)
	case r.sees("!"):
		return r.declared(api.GetNode)
	case r.sees("("):
		r.need("(")
		k := r.term()
		r.need(")")
		return k
	}
	k := r.named(api.NameNode)
	if r.sees("(") {
		k.Kind = api.CallNode
		k.kids = r.list(r.arg)
	}
	return k
}

// arg reads an argument: a term, a FnNode or an ObjectNode.
func (r *reader) arg() *knot {
	if k, ok := r.operation(api.FnNode); ok {
		k.kids = r.list(func() *knot { return r.named(api.BindNode) })
		k.kids = append(k.kids, r.first())
		return k
	}
	if k, ok := r.operation(api.ObjectNode); ok {
		k.kids = r.behind("get")
		r.need(";")
		r.need("put")
		k.kids = append(k.kids, r.named(api.BindNode))
		k.kids = append(k.kids, r.behind(".")...)
		r.need("}")
		return k
	}
	return r.term()
}
