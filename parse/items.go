package parse

import "riposte/api"

// item reads an item.
func (r *reader) item() *knot {
	if r.sees(tokenOf[api.ImportItem]) {
		return r.imported()
	}
	kind := api.DefItem
	if r.sees(tokenOf[api.ExportItem]) {
		kind = api.ExportItem
	}
	return r.defined(kind)
}

// imported reads an ImportItem.
func (r *reader) imported() *knot {
	k := r.declared(api.ImportItem)
	r.need(":")
	k.kids = []*knot{r.anyType()}
	r.need(";")
	return k
}

// defined reads a DefItem or an ExportItem.
func (r *reader) defined(kind uint8) *knot {
	k := r.declared(kind)
	r.need("(")
	if !r.sees(")") {
		k.kids = r.row(r.param)
	}
	r.need(")")
	r.need(":")
	base := r.base()
	r.need("=")
	k.kids = append(k.kids, base, r.term())
	r.need(";")
	return k
}

// param reads a ParamNode.
func (r *reader) param() *knot {
	k := r.named(api.ParamNode)
	r.need(":")
	k.kids = []*knot{r.anyType()}
	return k
}

// anyType reads a base or an ArrowType.
func (r *reader) anyType() *knot {
	if !r.sees("(") {
		return r.base()
	}
	at := r.ahead(0).At
	k := tie(api.ArrowType, at, r.list(r.base)...)
	r.need("->")
	k.kids = append(k.kids, r.base())
	return k
}

// base reads an IntType or a CellType.
func (r *reader) base() *knot {
	t := r.need("int", "cell", "com", "bool")
	k := tie(api.IntType, t.At)
	switch t.Text {
	case "com":
		k.N = 1
	case "bool":
		k.N = 2
	case "int":
		k.N = r.number()
	case "cell":
		k.Kind, k.N = api.CellType, r.number()
	}
	return k
}
