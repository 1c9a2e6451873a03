package run

import "riposte/api"

// rule is how nodes of a kind are evaluated.
type rule func(x node) ending

// rules returns the rules of all kinds of terms.
func rules() map[uint8]rule {
	return map[uint8]rule{
		api.NumNode:    node.num,
		api.TrueNode:   always(1),
		api.FalseNode:  always(0),
		api.SkipNode:   always(0),
		api.AsNode:     node.as,
		api.AddNode:    modulo(func(a, b int) int { return a + b }),
		api.SubNode:    modulo(func(a, b int) int { return a - b }),
		api.MulNode:    modulo(func(a, b int) int { return a * b }),
		api.EqNode:     comparison(func(a, b int) bool { return a == b }),
		api.LessNode:   comparison(func(a, b int) bool { return a < b }),
		api.OrNode:     unless(1),
		api.AndNode:    unless(0),
		api.NotNode:    node.not,
		api.SeqNode:    node.sequence,
		api.IfNode:     node.branch,
		api.WhileNode:  node.loop,
		api.NewNode:    node.cell,
		api.NoticeNode: node.notice,
		api.LabelNode:  node.label,
		api.JumpNode:   node.jump,
		api.ChooseNode: node.choose,
		api.HangNode:   node.hang,
		api.NameNode:   node.name,
		api.CallNode:   node.name,
		api.GetNode:    node.name,
		api.PutNode:    node.become,
	}
}

// always returns the rule of nodes that have a value.
func always(v int) rule {
	return func(node) ending { return told(v) }
}

// operation returns the rule of nodes that make a value of those of their kids.
func operation(of func(x node, a, b int) int) rule {
	return func(x node) ending {
		return x.then(0, func(a int) ending {
			return x.then(1, func(b int) ending { return told(of(x, a, b)) })
		})
	}
}

// modulo returns the rule of an operation modulo the size, which is added since a difference can be below 0.
func modulo(of func(a, b int) int) rule {
	return operation(func(x node, a, b int) int {
		return (of(a, b) + x.size()) % x.size()
	})
}

// comparison returns the rule of an operation that says yes or no.
func comparison(is func(a, b int) bool) rule {
	return operation(func(_ node, a, b int) int {
		if is(a, b) {
			return 1
		}
		return 0
	})
}

// unless returns the rule of nodes whose second kid counts, unless the first one has a value.
func unless(decided int) rule {
	return func(x node) ending {
		return x.then(0, func(v int) ending {
			if v == decided {
				return told(v)
			}
			return x.kid(1).evaluate()
		})
	}
}

func (x node) num() ending { return told(x.number()) }

// as takes a number by itself: it can be greater than any size.
func (x node) as() ending {
	kid := x.kid(0)
	if kid.kind() == api.NumNode {
		return told(kid.number() % x.number())
	}
	return x.then(0, func(v int) ending { return told(v % x.number()) })
}

func (x node) not() ending {
	return x.then(0, func(v int) ending { return told(1 - v) })
}

func (x node) sequence() ending {
	var end ending
	for k := range x.kids[x.n] {
		end = x.kid(k).evaluate()
		if end.how != tells {
			break
		}
	}
	return end
}

func (x node) branch() ending {
	return x.then(0, func(v int) ending {
		if v != 0 {
			return x.kid(1).evaluate()
		}
		return x.kid(2).evaluate()
	})
}

func (x node) loop() ending {
	for {
		end := x.kid(0).evaluate()
		if end.how != tells || end.number == 0 {
			return end
		}
		end = x.kid(1).evaluate()
		if end.how != tells {
			return end
		}
	}
}

// cell lets the cell be where the execution stands, if it stands within.
func (x node) cell() ending {
	place := len(x.cells)
	x.cells = append(x.cells, api.CellSeen{Node: x.n, N: x.Nodes[x.n].M})
	end := x.kid(0).with(x.n, meaning{how: aCell, number: place}).evaluate()
	if end.how != stops {
		x.cells = x.cells[:place]
	}
	return end
}

func (x node) notice() ending {
	end := x.kid(0).evaluate()
	if end.how == jumps || end.how == loses {
		x.cells[x.means().number].N = x.number()
	}
	return end
}

func (x node) label() ending {
	time := x.Steps
	end := x.kid(0).with(x.n, meaning{how: aLabel, number: time}).evaluate()
	if end == (ending{jumps, time}) {
		return x.kid(1).evaluate()
	}
	return end
}

func (x node) jump() ending { return ending{jumps, x.means().number} }

func (x node) choose() ending {
	if x.pick()%2 == 0 {
		return x.kid(0).evaluate()
	}
	return x.kid(1).evaluate()
}

func (x node) hang() ending {
	x.stand(api.StateHangs)
	return ending{how: stops}
}

func (x node) name() ending { return x.get(x.means()) }

func (x node) become() ending {
	return x.then(0, func(v int) ending { return x.put(x.means(), v) })
}
