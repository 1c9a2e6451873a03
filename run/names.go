package run

import "riposte/api"

// sight is a declaration that is in sight, what it stands for, and the ones around it.
type sight struct {
	name string
	meaning
	around *sight
}

// How a declaration stands for something.
const (
	aNode        = iota // a definition, or an argument
	anIdentifier        // of the arena
	aCell               // by its place among those that there are
	aValue
	aLabel // this time's, by the step in which it is evaluated
)

// meaning is what a declaration stands for: a node, or something that has a number.
type meaning struct {
	how, number int
	node        node
}

// with returns the node with one more declaration in sight.
func (x node) with(declaration int, m meaning) node {
	x.sight = &sight{x.Nodes[declaration].Text, m, x.sight}
	return x
}

// means returns what the declaration stands for that the node means. In a program without an error those in sight have different names.
func (x node) means() meaning {
	s := x.sight
	for s.name != x.text() {
		s = s.around
	}
	return s.meaning
}

// handed returns what a param stands for to which the node is handed. A name without a size is no integer: the param stands for the same.
func (x node) handed() meaning {
	if x.kind() == api.NameNode && x.size() == 0 {
		return x.means()
	}
	return meaning{how: aNode, node: x}
}

// get evaluates what a declaration stands for when the node asks it.
func (x node) get(m meaning) ending {
	switch m.how {
	case anIdentifier:
		return x.ask(api.Move{Id: m.number, Kind: api.MoveAsk})
	case aCell:
		return told(x.cells[m.number].N)
	case aValue:
		return told(m.number)
	}
	return x.enter(m.node)
}

// put evaluates what a declaration stands for when the node tells it to become a value.
func (x node) put(m meaning, v int) ending {
	switch m.how {
	case anIdentifier:
		return x.ask(api.Move{Id: m.number, Kind: api.MovePut, N: v})
	case aCell:
		x.cells[m.number].N = v
		return told(0)
	}
	bind, object := m.node.kid(1), m.node.kid(2)
	return object.with(bind.n, meaning{how: aValue, number: v}).evaluate()
}

// enter evaluates a definition, which has the kids of the node as its arguments, or an argument.
func (x node) enter(y node) ending {
	switch y.kind() {
	case api.DefItem, api.FnNode:
		for k := range x.kids[x.n] {
			y = y.with(y.kid(k).n, x.kid(k).handed())
		}
		return y.last().evaluate()
	case api.ObjectNode:
		return y.kid(0).evaluate()
	}
	return y.evaluate()
}

// ask asks an identifier, which has the kids of the node as its arguments, and answers what the other one asks them.
func (x node) ask(question api.Move) ending {
	if !x.say(question, x.n) {
		return ending{how: stops}
	}
	escape := ending{how: loses}
	for {
		m, ok := x.hear()
		switch {
		case !ok:
			return ending{how: stops}
		case m.Kind == api.MoveTell && m.N == api.Esc:
			return escape
		case m.Kind == api.MoveTell:
			return told(m.N)
		}
		arg := x.kid(m.Arg - 1)
		end := arg.asked(m)
		if end.how == stops || !x.say(end.answer(m.Id, m.Arg), arg.n) {
			return ending{how: stops}
		}
		if end.how != tells { // the Esc that the other one is forced to tell then hands it on
			escape = end
		}
	}
}

// asked evaluates the node as an argument that the other one asks.
func (x node) asked(question api.Move) ending {
	if question.Kind == api.MovePut {
		return x.put(x.handed(), question.N)
	}
	return x.get(x.handed())
}
