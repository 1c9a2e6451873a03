package core

import (
	"maps"
	"slices"
	"strconv"
	"strings"

	"riposte/api"
	"riposte/check"
	"riposte/parse"
)

// depth is how many identifiers and labels are in sight of a term.
type depth struct{ ids, labels int }

// What declarations stand for, in the book: functions that return terms.
type (
	integer func(d depth) api.Term
	routine func(d depth, args []any) api.Term
	object  struct {
		get  func(d depth) api.Term
		put  func(d depth, size int, value integer) api.Term
		hand func(d depth) api.Term // as an argument
	}
)

// tooLong is the panic of the book.
type tooLong struct{}

// book reads the chapter's table by other means than the package: what names mean is asked of chapter 3, and what arguments are by the types of params; what declarations stand for are functions in maps.
type book struct {
	api.Tree
	arena              api.Arena
	rows, means, sizes func(n int) fact
	taken              int
}

// fact is what chapter 2 or 3 says of a node: a list, or a number.
type fact struct {
	row    []int
	number int
}

// remembered returns a function that says each fact once.
func remembered(of func(n int) fact) func(int) fact {
	known := map[int]fact{}
	return func(n int) fact {
		if _, ok := known[n]; !ok {
			known[n] = of(n)
		}
		return known[n]
	}
}

// newBook returns the book of a program.
func newBook(u api.Tree, a api.Arena) *book {
	return &book{Tree: u, arena: a, rows: remembered(func(n int) fact {
		l, _ := parse.Kids(u, n)
		return fact{row: l}
	}), means: remembered(func(n int) fact {
		d, _ := check.Means(u, n)
		return fact{number: d}
	}), sizes: remembered(func(n int) fact {
		size, _ := check.Size(u, n)
		return fact{number: size}
	})}
}

// ofByBook returns what Of returns of an export that has an arena.
func ofByBook(u api.Tree, export string, jumps bool) (a api.Arena, t api.Term, e api.Errno) {
	a, _, e = check.Arena(u, export, jumps)
	if e != api.OK {
		return api.Arena{}, api.Term{}, e
	}
	defer func() {
		if r := recover(); r != nil {
			if _, ok := r.(tooLong); !ok {
				panic(r)
			}
			a, t, e = api.Arena{}, api.Term{}, api.ErrLimit
		}
	}()
	b := newBook(u, a)
	n, _ := parse.Find(u, export)
	in, imports := map[int]any{}, b.imports(len(u.Nodes))
	for _, kid := range b.row(n) {
		if u.Nodes[kid].Kind == api.ParamNode {
			in[kid] = b.identifier(imports + len(in) + 1)
		}
	}
	t = b.term(b.last(n), in, depth{len(a.Ids), 0})
	if len(slices.Collect(nodes(t))) > api.MaxCore {
		panic(tooLong{})
	}
	return a, t, api.OK
}

func (b *book) row(n int) []int { return b.rows(n).row }

func (b *book) size(n int) int { return b.sizes(n).number }

func (b *book) last(n int) int { return slices.Max(b.row(n)) }

// imports returns how many there are before a node.
func (b *book) imports(n int) int {
	many := 0
	for _, x := range b.Nodes[:n] {
		if x.Kind == api.ImportItem {
			many++
		}
	}
	return many
}

// identifier returns what one of the arena stands for.
func (b *book) identifier(id int) any {
	t := b.arena.Ids[id-1]
	if t.Result.Cell && len(t.Params) == 0 {
		return cellObject(id)
	}
	use := func(d depth, args []any) api.Term {
		u := api.Term{Kind: api.TermUse, Id: id}
		for k, p := range t.Params {
			if p.Cell {
				u.Kids = append(u.Kids, args[k].(object).hand(d))
			} else {
				u.Kids = append(u.Kids, args[k].(integer)(d))
			}
		}
		return u
	}
	if len(t.Params) > 0 {
		return routine(use)
	}
	return integer(func(d depth) api.Term { return use(d, nil) })
}

// cellObject returns a cell with a number.
func cellObject(id int) object {
	return object{
		func(depth) api.Term { return api.Term{Kind: api.TermGet, Id: id} },
		func(d depth, _ int, value integer) api.Term {
			return api.Term{Kind: api.TermPut, Id: id, Kids: []api.Term{value(d)}}
		},
		func(depth) api.Term { return api.Term{Kind: api.TermCell, Id: id} },
	}
}

// stands returns what the declaration stands for that a node means.
func (b *book) stands(n int, in map[int]any) any {
	d := b.means(n).number
	switch b.Nodes[d].Kind {
	case api.ImportItem:
		return b.identifier(b.imports(d) + 1)
	case api.DefItem:
		if b.Nodes[d+1].Kind != api.ParamNode {
			return integer(func(at depth) api.Term { return b.term(b.last(d), nil, at) })
		}
		return b.routine(d, nil)
	}
	return in[d]
}

// routine returns what a DefItem with params, or a FnNode, becomes with arguments: its kids are the params, perhaps a base, and the term.
func (b *book) routine(n int, in map[int]any) routine {
	return func(d depth, args []any) api.Term {
		inner := map[int]any{}
		maps.Copy(inner, in)
		for i, arg := range args {
			inner[b.row(n)[i]] = arg
		}
		return b.term(b.last(n), inner, d)
	}
}

// argument returns what a param of a type stands for, by its argument.
func (b *book) argument(n int, p api.Type, in map[int]any) any {
	x := b.Nodes[n]
	switch {
	case len(p.Params) == 0 && !p.Result.Cell:
		return integer(func(d depth) api.Term { return b.term(n, in, d) })
	case x.Kind == api.NameNode:
		return b.stands(n, in)
	case x.Kind == api.FnNode:
		return b.routine(n, in)
	}
	k := b.row(n)
	get := func(d depth) api.Term { return b.term(k[0], in, d) }
	becomes := func(kind uint8, d depth) api.Term {
		inner := maps.Clone(in)
		if inner == nil {
			inner = map[int]any{}
		}
		id := d.ids + 1
		inner[k[1]] = integer(func(depth) api.Term { return api.Term{Kind: kind, Id: id} })
		return b.term(k[2], inner, depth{id, d.labels})
	}
	return object{get, func(d depth, size int, value integer) api.Term {
		set := api.Term{Kind: api.TermPut, Id: d.ids + 1, Kids: []api.Term{value(depth{d.ids + 1, d.labels})}}
		return kids(api.Term{Kind: api.TermNew, N: size}, kids(api.Term{Kind: api.TermSeq}, set, becomes(api.TermGet, d)))
	}, func(d depth) api.Term {
		return kids(api.Term{Kind: api.TermObject}, get(d), becomes(api.TermVal, d))
	}}
}

// params returns the types of the params of what a CallNode means.
func (b *book) params(n int) []api.Type {
	var l []api.Type
	d := b.means(n).number
	if b.Nodes[d].Kind == api.DefItem {
		for _, kid := range b.row(d)[:len(b.row(n))] {
			typed, _ := check.Type(b.Tree, kid)
			l = append(l, typed)
		}
		return l
	}
	typed, _ := check.Type(b.Tree, d)
	for _, base := range typed.Params {
		l = append(l, api.Type{Result: base})
	}
	return l
}

// term returns the term of a node.
func (b *book) term(n int, in map[int]any, d depth) api.Term {
	b.taken++
	if b.taken > api.MaxTaken {
		panic(tooLong{})
	}
	x, k := b.Nodes[n], b.row(n)
	size := b.size(n)
	kid := func(i int) api.Term { return b.term(k[i], in, d) }
	var all []api.Term
	plain := map[uint8]api.Term{
		api.AddNode: {Kind: api.TermOp, N: 1, M: size}, api.SubNode: {Kind: api.TermOp, N: 2, M: size}, api.MulNode: {Kind: api.TermOp, N: 3, M: size}, api.EqNode: {Kind: api.TermOp, N: 4}, api.LessNode: {Kind: api.TermOp, N: 5},
		api.SeqNode: {Kind: api.TermSeq}, api.IfNode: {Kind: api.TermIf}, api.WhileNode: {Kind: api.TermWhile}, api.ChooseNode: {Kind: api.TermChoose}, api.HangNode: {Kind: api.TermHang}, api.AsNode: {Kind: api.TermAs, N: x.N},
	}
	if u, ok := plain[x.Kind]; ok && (x.Kind != api.AsNode || b.Nodes[k[0]].Kind != api.NumNode) {
		for i := range k {
			all = append(all, kid(i))
		}
		if x.Kind == api.EqNode || x.Kind == api.LessNode {
			u.M = b.size(k[1])
		}
		for len(all) > 2 && x.Kind == api.SeqNode {
			at := len(all) - 2
			all = append(all[:at], kids(u, all[at], all[at+1]))
		}
		return kids(u, all...)
	}
	switch x.Kind {
	case api.NumNode:
		return num(x.N, size)
	case api.AsNode:
		return num(b.Nodes[k[0]].N%x.N, x.N)
	case api.TrueNode:
		return num(1, 2)
	case api.FalseNode:
		return num(0, 2)
	case api.SkipNode:
		return num(0, 1)
	case api.OrNode:
		return kids(api.Term{Kind: api.TermIf}, kid(0), num(1, 2), kid(1))
	case api.AndNode:
		return kids(api.Term{Kind: api.TermIf}, kid(0), kid(1), num(0, 2))
	case api.NotNode:
		return kids(api.Term{Kind: api.TermIf}, kid(0), num(0, 2), num(1, 2))
	}
	return b.named(n, in, d)
}

// named returns the term of a node with a name.
func (b *book) named(n int, in map[int]any, d depth) api.Term {
	x, k := b.Nodes[n], b.row(n)
	inner := map[int]any{}
	maps.Copy(inner, in)
	switch x.Kind {
	case api.NewNode:
		inner[n] = cellObject(d.ids + 1)
		return kids(api.Term{Kind: api.TermNew, N: x.N, M: x.M}, b.term(k[0], inner, depth{d.ids + 1, d.labels}))
	case api.NoticeNode:
		cell := b.stands(n, in).(object).get(d)
		return kids(api.Term{Kind: api.TermNotice, Id: cell.Id, N: x.N}, b.term(k[0], in, d))
	case api.LabelNode:
		inner[n] = d.labels
		return kids(api.Term{Kind: api.TermLabel}, b.term(k[0], inner, depth{d.ids, d.labels + 1}), b.term(k[1], in, d))
	case api.JumpNode:
		return api.Term{Kind: api.TermJump, N: d.labels - b.stands(n, in).(int) - 1}
	case api.GetNode:
		return b.stands(n, in).(object).get(d)
	case api.PutNode:
		return b.stands(n, in).(object).put(d, b.size(k[0]), func(at depth) api.Term { return b.term(k[0], in, at) })
	case api.NameNode:
		return b.stands(n, in).(integer)(d)
	}
	var args []any
	for i, p := range b.params(n) {
		args = append(args, b.argument(k[i], p, in))
	}
	return b.stands(n, in).(routine)(d, args)
}

// spoken writes the text of a program whose export main is a term, in an arena whose Root is no cell: with names in the place of numbers, and each size said, so that chapter 3 decides whether the term is right. Numbers without a name get one that means nothing.
type spoken struct {
	ids, labels []string
	cells       map[string]bool
	count       int
}

// programOf returns the text of the program.
func programOf(a api.Arena, u api.Term) string {
	p := &spoken{cells: map[string]bool{}}
	var s strings.Builder
	base := func(b api.Base) string {
		if b.Cell {
			return "cell " + strconv.Itoa(b.N)
		}
		return "int " + strconv.Itoa(b.N)
	}
	for i, id := range a.Ids {
		name := "y" + strconv.Itoa(i)
		p.ids = append(p.ids, name)
		p.cells[name] = id.Result.Cell
		typed := base(id.Result)
		if len(id.Params) > 0 {
			var l []string
			for _, b := range id.Params {
				l = append(l, base(b))
			}
			typed = "(" + strings.Join(l, ",") + ")->" + typed
		}
		s.WriteString("import " + name + ":" + typed + ";")
	}
	return s.String() + "export main():" + base(a.Root) + "=" + p.term(u) + ";"
}

// id returns the name with a number, if its letter is one of some.
func (p *spoken) id(n int, letters string, cell bool) string {
	if n < 1 || n > len(p.ids) || !strings.Contains(letters, p.ids[n-1][:1]) || p.cells[p.ids[n-1]] != cell {
		return "nothing"
	}
	return p.ids[n-1]
}

func (p *spoken) fresh(letter string) string {
	p.count++
	return letter + strconv.Itoa(p.count)
}

// sized returns a term that is given a size.
func (p *spoken) sized(s string, size int) string {
	return "(label " + p.fresh("q") + " in " + s + " else(0 as " + strconv.Itoa(size) + "))"
}

// under returns the text of a term for which one more name is in sight.
func (p *spoken) under(l *[]string, name string, u api.Term) string {
	*l = append(*l, name)
	s := p.term(u)
	*l = (*l)[:len(*l)-1]
	return s
}

// all returns the texts of the kids, in brackets.
func (p *spoken) all(u api.Term) []string {
	var l []string
	for _, kid := range u.Kids {
		l = append(l, p.term(kid))
	}
	return l
}

// term returns the text of a term, in brackets.
func (p *spoken) term(u api.Term) string {
	n, m := strconv.Itoa(u.N), strconv.Itoa(u.M)
	if len(u.Kids) != map[uint8]int{api.TermPut: 1, api.TermOp: 2, api.TermAs: 1, api.TermSeq: 2, api.TermIf: 3, api.TermWhile: 2, api.TermNew: 1, api.TermLabel: 2, api.TermChoose: 2, api.TermNotice: 1, api.TermObject: 2}[u.Kind] && u.Kind != api.TermUse || u.N < 0 || u.M < 0 {
		return "nothing"
	}
	switch u.Kind {
	case api.TermNew:
		name := p.fresh("c")
		p.cells[name] = true
		return "(new " + name + ":" + n + ":=" + m + " in " + p.under(&p.ids, name, u.Kids[0]) + ")"
	case api.TermLabel:
		name := p.fresh("l")
		return "(label " + name + " in " + p.under(&p.labels, name, u.Kids[0]) + " else " + p.term(u.Kids[1]) + ")"
	case api.TermJump:
		if u.N >= len(p.labels) {
			return "nothing"
		}
		return "(jump " + p.labels[len(p.labels)-u.N-1] + ")"
	case api.TermObject:
		name := p.fresh("v")
		return "{get " + p.term(u.Kids[0]) + ";put " + name + "." + p.under(&p.ids, name, u.Kids[1]) + "}"
	}
	l := p.all(u)
	switch u.Kind {
	case api.TermNum:
		return p.sized(n, u.M)
	case api.TermUse:
		if len(l) > 0 {
			return p.id(u.Id, "y", false) + "(" + strings.Join(l, ",") + ")"
		}
		return p.id(u.Id, "y", false)
	case api.TermGet:
		return "!" + p.id(u.Id, "yc", true)
	case api.TermPut:
		return "(" + p.id(u.Id, "yc", true) + ":=" + l[0] + ")"
	case api.TermOp:
		if u.N < api.OpAdd || u.N > api.OpLess {
			return "nothing"
		}
		sign := []string{"+", "-", "*", "=", "<"}[u.N-api.OpAdd]
		return "(" + p.sized(l[0], u.M) + sign + l[1] + ")"
	case api.TermAs:
		return "(" + l[0] + " as " + n + ")"
	case api.TermSeq:
		return "(" + l[0] + ";" + l[1] + ")"
	case api.TermIf:
		return "(if " + l[0] + " then " + l[1] + " else " + l[2] + ")"
	case api.TermWhile:
		return "(while " + l[0] + " do " + l[1] + ")"
	case api.TermChoose:
		return "(choose " + l[0] + " else " + l[1] + ")"
	case api.TermNotice:
		return "(notice " + p.id(u.Id, "c", true) + ":=" + n + " in " + l[0] + ")"
	case api.TermHang:
		return "hang"
	case api.TermVal:
		return p.id(u.Id, "v", false)
	case api.TermCell:
		return p.id(u.Id, "yc", true)
	}
	return "nothing"
}
