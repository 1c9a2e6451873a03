package parse

import "riposte/api"

// tokenOf is the sign or the keyword that tells of a node of a kind, for kinds that are read or printed in the same way.
var tokenOf = [...]string{
	api.ImportItem: "import", api.DefItem: "def", api.ExportItem: "export",
	api.NewNode: "new", api.LabelNode: "label", api.NoticeNode: "notice",
	api.OrNode: "or", api.AndNode: "and", api.NotNode: "not", api.EqNode: "=", api.LessNode: "<",
	api.AddNode: "+", api.SubNode: "-", api.MulNode: "*", api.AsNode: "as",
	api.TrueNode: "true", api.FalseNode: "false", api.SkipNode: "skip", api.HangNode: "hang",
	api.JumpNode: "jump", api.GetNode: "!", api.FnNode: "fn", api.ObjectNode: "{",
}

// firsts returns how the terms are read that begin with a keyword of their own.
func firsts() map[string]func(*reader) *knot {
	return map[string]func(*reader) *knot{
		"if":     (*reader).ifTerm,
		"while":  (*reader).whileTerm,
		"new":    (*reader).newTerm,
		"label":  (*reader).labelTerm,
		"notice": (*reader).noticeTerm,
		"choose": (*reader).chooseTerm,
	}
}

// term reads a term.
func (r *reader) term() *knot {
	k := r.first()
	if !r.goesOn() {
		return k
	}
	k = tie(api.SeqNode, r.ahead(0).At, k)
	for r.goesOn() {
		k.kids = append(k.kids, r.behind(";")...)
	}
	return k
}

// goesOn reports whether a ; comes next that belongs to a term: one behind which no item begins, and the text does not end.
func (r *reader) goesOn() bool { return r.sees(";") && !borders(r.ahead(1)) }

// first reads a term that is no SeqNode, if it has no brackets.
func (r *reader) first() *knot {
	t := r.ahead(0)
	if read, ok := r.firsts[t.Text]; ok {
		return read(r)
	}
	if t.Kind == api.TokName && r.ahead(1).Text == ":=" {
		return r.putTerm()
	}
	return r.or()
}

// behind reads firsts, each behind a sign or a keyword.
func (r *reader) behind(signs ...string) []*knot {
	var l []*knot
	for _, sign := range signs {
		r.need(sign)
		l = append(l, r.first())
	}
	return l
}

// ifTerm and the others read the firsts that are no operations.
func (r *reader) ifTerm() *knot {
	at := r.ahead(0).At
	return tie(api.IfNode, at, r.behind("if", "then", "else")...)
}

func (r *reader) whileTerm() *knot {
	at := r.ahead(0).At
	return tie(api.WhileNode, at, r.behind("while", "do")...)
}

func (r *reader) newTerm() *knot {
	k := r.declared(api.NewNode)
	r.need(":")
	k.N = r.number()
	r.need(":=")
	k.M = r.number()
	k.kids = r.behind("in")
	return k
}

func (r *reader) labelTerm() *knot {
	k := r.declared(api.LabelNode)
	k.kids = r.behind("in", "else")
	return k
}

func (r *reader) noticeTerm() *knot {
	k := r.declared(api.NoticeNode)
	r.need(":=")
	k.N = r.number()
	k.kids = r.behind("in")
	return k
}

func (r *reader) chooseTerm() *knot {
	at := r.ahead(0).At
	return tie(api.ChooseNode, at, r.behind("choose", "else")...)
}

func (r *reader) putTerm() *knot {
	k := r.named(api.PutNode)
	k.kids = r.behind(":=")
	return k
}
