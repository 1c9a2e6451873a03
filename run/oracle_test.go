package run

import (
	"maps"
	"slices"

	"riposte/api"
	"riposte/check"
	"riposte/parse"
	"riposte/play"
)

// What declarations stand for, in the book: functions. Who asks is the node from which a question would come.
type (
	integer func(asker int) int
	routine func(asker int, args []any) int
	object  struct {
		get func(asker int) int
		put func(asker, v int) int
	}
	target struct{ node int } // a LabelNode, this time's
)

// What ends an evaluation, by a panic.
type (
	thrown   struct{ to *target } // a jump; lost, if it goes to none
	standing struct{}             // the execution stands
)

// facts are what the chapters 2 and 3 say of the nodes of a program.
type facts struct {
	kids         [][]int
	means, sizes []int
}

// factsOf returns the facts of a program without an error.
func factsOf(t api.Tree) *facts {
	f := &facts{}
	for n := range t.Nodes {
		kids, _ := parse.Kids(t, n)
		meant, _ := check.Means(t, n)
		size, _ := check.Size(t, n)
		f.kids, f.means, f.sizes = append(f.kids, kids), append(f.means, meant), append(f.sizes, size)
	}
	return f
}

// book reads the chapter's sentences by other means than the package: what names mean is asked of chapter 3, and what arguments are by the types of params; what declarations stand for are functions in maps; jumps are panics.
type book struct {
	api.Session
	*facts
	arena   api.Arena
	turn    api.Turn
	origins []int
	alive   []*api.CellSeen
	e       api.Errno
}

// read returns the book of a session without an error.
func read(x api.Session, f *facts) *book {
	b := &book{Session: x, facts: f}
	b.arena, _, _ = check.Arena(x.T, x.Export, x.Jumps)
	func() {
		defer func() {
			if r := recover(); r != nil && r != (any)(standing{}) {
				panic(r)
			}
		}()
		b.conversation()
	}()
	return b
}

func (b *book) conversation() {
	b.hears()
	export, _ := parse.Find(b.T, b.Export)
	in := map[int]any{}
	for _, kid := range b.kids[export] {
		if b.T.Nodes[kid].Kind == api.ParamNode {
			in[kid] = b.identifier(b.count(api.ImportItem, 0, len(b.T.Nodes)) + len(in) + 1)
		}
	}
	term := slices.Max(b.kids[export])
	b.tells(api.Move{}, term, func() int { return b.value(term, in) })
	b.turn.State = api.StateOver
	if b.turn.At < len(b.Word) {
		b.turn.State = api.StateOdd
	}
}

// count returns how many nodes of a kind there are from one up to another one.
func (b *book) count(kind uint8, from, to int) int {
	many := 0
	for _, x := range b.T.Nodes[from:to] {
		if x.Kind == kind {
			many++
		}
	}
	return many
}

// ends lets the execution stand.
func (b *book) ends(state uint8) {
	b.turn.State = state
	panic(standing{})
}

// says lets the program move.
func (b *book) says(m api.Move, from int) {
	if len(b.Word) > b.turn.At && b.Word[b.turn.At] != m {
		b.ends(api.StateOdd)
	}
	b.origins = append(b.origins, from)
	if len(b.Word) > b.turn.At {
		b.turn.At++
		return
	}
	b.turn.Moves = api.Word{m}
	if m.Id == 0 {
		b.ends(api.StateOver)
	}
	b.ends(api.StateAsks)
}

// hears lets the other one move.
func (b *book) hears() api.Move {
	if b.turn.At == len(b.Word) {
		b.ends(api.StateAsks)
	}
	m := b.Word[b.turn.At]
	if l, e := play.Next(b.arena, b.Word[:b.turn.At]); e != api.OK || !slices.Contains(l, m) {
		b.ends(api.StateOdd)
	}
	b.turn.At++
	b.origins = append(b.origins, -1)
	return m
}

// tells lets the program tell how an evaluation ends; if it is a jump out of an argument it goes on behind what the other one is forced to say.
func (b *book) tells(place api.Move, from int, of func() int) {
	place.Kind, place.N = api.MoveTell, api.Esc
	var jump any
	func() {
		defer func() {
			jump = recover()
			if _, ok := jump.(thrown); jump != nil && !ok {
				panic(jump)
			}
		}()
		place.N = of()
	}()
	b.says(place, from)
	if jump != nil && place.Id > 0 {
		b.hears()
		panic(jump)
	}
}

// asks lets the program ask an identifier, with arguments for the params.
func (b *book) asks(m api.Move, asker int, args []any) int {
	b.says(m, asker)
	for {
		o := b.hears()
		if o.Kind == api.MoveTell {
			if o.N == api.Esc {
				panic(thrown{})
			}
			return o.N
		}
		from := b.kids[asker][o.Arg-1]
		b.tells(api.Move{Id: o.Id, Arg: o.Arg}, from, func() int {
			switch y := args[o.Arg-1].(type) {
			case object:
				if o.Kind == api.MovePut {
					return y.put(from, o.N)
				}
				return y.get(from)
			case integer:
				return y(from)
			}
			panic("no argument of an identifier")
		})
	}
}

// identifier returns what an import, or a param of the export, stands for.
func (b *book) identifier(id int) any {
	ask := func(asker int) int { return b.asks(api.Move{Id: id, Kind: api.MoveAsk}, asker, nil) }
	switch typed := b.arena.Ids[id-1]; {
	case len(typed.Params) > 0:
		return routine(func(asker int, args []any) int { return b.asks(api.Move{Id: id, Kind: api.MoveAsk}, asker, args) })
	case typed.Result.Cell:
		return object{ask, func(asker, v int) int { return b.asks(api.Move{Id: id, Kind: api.MovePut, N: v}, asker, nil) }}
	}
	return integer(ask)
}

// stands returns what the declaration stands for that a node means.
func (b *book) stands(n int, in map[int]any) any {
	d := b.means[n]
	switch b.T.Nodes[d].Kind {
	case api.ImportItem:
		return b.identifier(b.count(api.ImportItem, 0, d) + 1)
	case api.DefItem:
		if b.T.Nodes[d+1].Kind != api.ParamNode {
			return integer(func(int) int { return b.value(slices.Max(b.kids[d]), map[int]any{}) })
		}
		return b.routine(d, map[int]any{})
	}
	return in[d]
}

// routine returns what a DefItem with params, or a FnNode, does with arguments: its kids are the params, perhaps a base, and the term.
func (b *book) routine(n int, in map[int]any) routine {
	return func(_ int, args []any) int {
		inner := maps.Clone(in)
		for i, arg := range args {
			inner[b.kids[n][i]] = arg
		}
		return b.value(slices.Max(b.kids[n]), inner)
	}
}

// argument returns what a param of a type stands for, by its argument.
func (b *book) argument(n int, p api.Type, in map[int]any) any {
	x := b.T.Nodes[n]
	switch {
	case len(p.Params) == 0 && !p.Result.Cell:
		return integer(func(int) int { return b.value(n, in) })
	case x.Kind == api.NameNode:
		return b.stands(n, in)
	case x.Kind == api.FnNode:
		return b.routine(n, in)
	}
	return object{func(int) int { return b.value(b.kids[n][0], in) }, func(_, v int) int {
		inner := maps.Clone(in)
		inner[b.kids[n][1]] = integer(func(int) int { return v })
		return b.value(b.kids[n][2], inner)
	}}
}

// params returns the types of the params of what a CallNode means.
func (b *book) params(n int) []api.Type {
	var l []api.Type
	d := b.means[n]
	if b.T.Nodes[d].Kind == api.DefItem {
		for _, kid := range b.kids[d][:len(b.kids[n])] {
			typed, _ := check.Type(b.T, kid)
			l = append(l, typed)
		}
		return l
	}
	typed, _ := check.Type(b.T, d)
	for _, base := range typed.Params {
		l = append(l, api.Type{Result: base})
	}
	return l
}

// value evaluates a node.
func (b *book) value(n int, in map[int]any) int {
	if b.turn.Steps == api.MaxSteps {
		b.e = api.ErrLimit
		panic(standing{})
	}
	b.turn.Steps++
	x, k := b.T.Nodes[n], b.kids[n]
	kid := func(i int) int { return b.value(k[i], in) }
	switch x.Kind {
	case api.NumNode:
		return x.N
	case api.TrueNode:
		return 1
	case api.FalseNode, api.SkipNode:
		return 0
	case api.AsNode:
		if y := b.T.Nodes[k[0]]; y.Kind == api.NumNode {
			return y.N % x.N
		}
		return kid(0) % x.N
	case api.AddNode, api.SubNode, api.MulNode, api.EqNode, api.LessNode:
		first := kid(0)
		return b.operation(n, first, kid(1))
	case api.OrNode, api.AndNode:
		if first := kid(0); (first == 1) == (x.Kind == api.OrNode) {
			return first
		}
		return kid(1)
	case api.NotNode:
		return 1 - kid(0)
	case api.SeqNode:
		for i := range k[1:] {
			kid(i)
		}
		return kid(len(k) - 1)
	case api.IfNode:
		if kid(0) != 0 {
			return kid(1)
		}
		return kid(2)
	case api.WhileNode:
		for kid(0) != 0 {
			kid(1)
		}
		return 0
	case api.HangNode:
		if b.turn.At < len(b.Word) {
			b.ends(api.StateOdd)
		}
		b.ends(api.StateHangs)
	}
	return b.named(n, in)
}

// operation returns the value of an operation.
func (b *book) operation(n, first, second int) int {
	v := 0
	switch b.T.Nodes[n].Kind {
	case api.AddNode:
		v = first + second
	case api.SubNode:
		v = first - second + b.sizes[n]
	case api.MulNode:
		v = first * second
	case api.EqNode:
		if first == second {
			v = 1
		}
	case api.LessNode:
		if first < second {
			v = 1
		}
	}
	return v % b.sizes[n]
}

// named evaluates a node with a name, or with a pick.
func (b *book) named(n int, in map[int]any) int {
	x, k := b.T.Nodes[n], b.kids[n]
	switch x.Kind {
	case api.ChooseNode:
		b.turn.Picks++
		if b.turn.Picks > len(b.Picks) || b.Picks[b.turn.Picks-1]%2 == 0 {
			return b.value(k[0], in)
		}
		return b.value(k[1], in)
	case api.NewNode:
		return b.cell(n, in)
	case api.LabelNode:
		return b.label(n, in)
	case api.JumpNode:
		panic(thrown{in[b.means[n]].(*target)})
	case api.NoticeNode:
		defer func() {
			r := recover()
			if _, ok := r.(thrown); ok {
				in[b.means[n]].(object).put(-1, x.N)
			}
			if r != nil {
				panic(r)
			}
		}()
		return b.value(k[0], in)
	case api.GetNode:
		return b.stands(n, in).(object).get(n)
	case api.PutNode:
		v := b.value(k[0], in)
		return b.stands(n, in).(object).put(n, v)
	case api.NameNode:
		return b.stands(n, in).(integer)(n)
	}
	var args []any
	for i, p := range b.params(n) {
		args = append(args, b.argument(k[i], p, in))
	}
	return b.stands(n, in).(routine)(n, args)
}

// cell evaluates a NewNode.
func (b *book) cell(n int, in map[int]any) int {
	c := &api.CellSeen{Node: n, N: b.T.Nodes[n].M}
	b.alive = append(b.alive, c)
	defer func() {
		r := recover()
		if r != (any)(standing{}) {
			b.alive = slices.DeleteFunc(b.alive, func(d *api.CellSeen) bool { return c == d })
		}
		if r != nil {
			panic(r)
		}
	}()
	inner := maps.Clone(in)
	inner[n] = object{func(int) int { return c.N }, func(_, v int) int { c.N = v; return 0 }}
	return b.value(b.kids[n][0], inner)
}

// label evaluates a LabelNode.
func (b *book) label(n int, in map[int]any) int {
	this := &target{n}
	inner := maps.Clone(in)
	inner[n] = this
	v, caught := 0, false
	func() {
		defer func() {
			r := recover()
			if t, ok := r.(thrown); ok && t.to == this {
				caught = true
			} else if r != nil {
				panic(r)
			}
		}()
		v = b.value(b.kids[n][0], inner)
	}()
	if caught {
		return b.value(b.kids[n][1], in)
	}
	return v
}

// store returns the cells that are alive.
func (b *book) store() []api.CellSeen {
	var l []api.CellSeen
	for _, c := range b.alive {
		l = append(l, *c)
	}
	return l
}
