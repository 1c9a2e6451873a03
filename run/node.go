package run

import "riposte/api"

// How an evaluation ends.
const (
	tells = iota // with a value
	jumps        // with a jump to a label, this time's
	loses        // lost
	stops        // not at all: the execution stands
)

// ending is how an evaluation ends, with a value or the number of a label.
type ending struct{ how, number int }

// told returns the ending with a value.
func told(v int) ending { return ending{tells, v} }

// answer returns the answer of a place by which an ending is told.
func (e ending) answer(id, arg int) api.Move {
	m := api.Move{Id: id, Arg: arg, Kind: api.MoveTell, N: api.Esc}
	if e.how == tells {
		m.N = e.number
	}
	return m
}

// node is a node that is evaluated, with what is in sight there.
type node struct {
	*execution
	n     int
	sight *sight
}

// evaluate evaluates the node.
func (x node) evaluate() ending {
	if x.Steps == api.MaxSteps {
		x.endless = true
		return ending{how: stops}
	}
	x.Steps++
	return x.rules[x.kind()](x)
}

// kind, text and number return what the tree says of the node.
func (x node) kind() uint8 { return x.Nodes[x.n].Kind }

func (x node) text() string { return x.Nodes[x.n].Text }

func (x node) number() int { return x.Nodes[x.n].N }

// size returns the size that the node is given, 0 if it is an argument that has none.
func (x node) size() int { return x.sizeOf(x.n) }

// kid returns a kid, with the same in sight.
func (x node) kid(k int) node { return node{x.execution, x.kids[x.n][k], x.sight} }

// last returns the last kid.
func (x node) last() node { return x.kid(len(x.kids[x.n]) - 1) }

// then evaluates a kid, and goes on with its value if it ends with one.
func (x node) then(k int, on func(v int) ending) ending {
	end := x.kid(k).evaluate()
	if end.how != tells {
		return end
	}
	return on(end.number)
}
