package run

import "riposte/api"

// followed is a word that is followed, and how many of its moves, from the first one on, are legal.
type followed struct {
	word  api.Word
	legal int
}

// execution is a program that is executed along a word: where it stands, from which node each move comes, the cells that there are, and whether it takes too many steps.
type execution struct {
	*program
	followed
	api.Turn
	picks   []int
	origins []int
	cells   []api.CellSeen
	endless bool
}

// converse lets the other one ask the export, and the export answer.
func (x *execution) converse() {
	if _, ok := x.hear(); !ok {
		return
	}
	term := x.term()
	end := term.evaluate()
	if end.how == stops {
		return
	}
	x.say(end.answer(0, 0), term.n)
	x.stand(api.StateOver)
}

// term returns the term of the export, with what is in sight there.
func (x *execution) term() node {
	top := node{execution: x}
	id := 0
	for _, item := range x.kids[0] {
		switch x.Nodes[item].Kind {
		case api.ImportItem:
			id++
			top = top.with(item, meaning{how: anIdentifier, number: id})
		case api.DefItem:
			top = top.with(item, meaning{how: aNode, node: node{x, item, top.sight}})
		}
	}
	export := node{x, x.export, top.sight}
	for _, kid := range x.kids[x.export] {
		if x.Nodes[kid].Kind == api.ParamNode {
			id++
			export = export.with(kid, meaning{how: anIdentifier, number: id})
		}
	}
	return export.last()
}

// say makes a move of the program, which comes from a node, and reports whether the word goes along with it.
func (x *execution) say(m api.Move, from int) bool {
	switch {
	case x.At == len(x.word):
		x.Moves = api.Word{m}
		x.origins = append(x.origins, from)
	case x.word[x.At] == m:
		x.pass(from)
		return true
	}
	x.stand(api.StateAsks)
	return false
}

// hear returns the next move of the other one, and whether there is one that can come.
func (x *execution) hear() (api.Move, bool) {
	if x.At >= x.legal {
		x.stand(api.StateAsks)
		return api.Move{}, false
	}
	m := x.word[x.At]
	x.pass(-1)
	return m, true
}

// pass goes past a move of the word, which comes from a node.
func (x *execution) pass(from int) {
	x.At++
	x.origins = append(x.origins, from)
}

// stand says how the execution stands where it does not go on. A move that the word has there is odd.
func (x *execution) stand(state uint8) {
	x.State = state
	if x.At < len(x.word) {
		x.State = api.StateOdd
	}
}

// pick takes the next pick.
func (x *execution) pick() int {
	pick := 0
	if x.Picks < len(x.picks) {
		pick = x.picks[x.Picks]
	}
	x.Picks++
	return pick
}
