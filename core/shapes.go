package core

import (
	"slices"

	"riposte/api"
)

// Fields of a term that hold numbers.
const (
	ofN = iota
	ofM
	ofId
	fields
)

// numbers are the numbers of a term, by its fields.
type numbers [fields]int

// numbersOf returns the numbers of a term.
func numbersOf(t api.Term) numbers { return numbers{ofN: t.N, ofM: t.M, ofId: t.Id} }

// asParams says that there are as many kids as what is named has params.
const asParams = -1

// shape is how terms of a kind look: the word with which their text begins, the numbers that it stands for, which numbers are told behind it, and how many kids they have.
type shape struct {
	word  string
	kind  uint8
	fixed numbers
	told  []int
	kids  int
}

// shapes returns the shapes of all terms.
func shapes() []shape {
	return []shape{
		{word: "", kind: api.TermNum, told: []int{ofN, ofM}},
		{word: "x", kind: api.TermUse, told: []int{ofId}, kids: asParams},
		{word: "!", kind: api.TermGet, told: []int{ofId}},
		{word: "=", kind: api.TermPut, told: []int{ofId}, kids: 1},
		{word: "add/", kind: api.TermOp, fixed: numbers{ofN: api.OpAdd}, told: []int{ofM}, kids: 2},
		{word: "sub/", kind: api.TermOp, fixed: numbers{ofN: api.OpSub}, told: []int{ofM}, kids: 2},
		{word: "mul/", kind: api.TermOp, fixed: numbers{ofN: api.OpMul}, told: []int{ofM}, kids: 2},
		{word: "eq/", kind: api.TermOp, fixed: numbers{ofN: api.OpEq}, told: []int{ofM}, kids: 2},
		{word: "less/", kind: api.TermOp, fixed: numbers{ofN: api.OpLess}, told: []int{ofM}, kids: 2},
		{word: "as/", kind: api.TermAs, told: []int{ofN}, kids: 1},
		{word: "seq", kind: api.TermSeq, kids: 2},
		{word: "if", kind: api.TermIf, kids: 3},
		{word: "while", kind: api.TermWhile, kids: 2},
		{word: "new/", kind: api.TermNew, told: []int{ofN, ofM}, kids: 1},
		{word: "label", kind: api.TermLabel, kids: 2},
		{word: "jump/", kind: api.TermJump, told: []int{ofN}},
		{word: "choose", kind: api.TermChoose, kids: 2},
		{word: "notice/", kind: api.TermNotice, told: []int{ofId, ofN}, kids: 1},
		{word: "hang", kind: api.TermHang},
		{word: "#", kind: api.TermVal, told: []int{ofId}},
		{word: "&", kind: api.TermCell, told: []int{ofId}},
		{word: "obj", kind: api.TermObject, kids: 2},
	}
}

// shaped returns the first of some shapes that a term has, and whether there is one.
func shaped(l []shape, t api.Term) (shape, bool) {
	i := slices.IndexFunc(l, func(s shape) bool { return s.fits(t) })
	if i < 0 {
		return shape{}, false
	}
	return l[i], true
}

// fits reports whether a term has the shape: no numbers but those that are told, and as many kids.
func (s shape) fits(t api.Term) bool {
	rest := numbersOf(t)
	for _, field := range s.told {
		rest[field] = 0
	}
	return t.Kind == s.kind && rest == s.fixed && (s.kids == asParams || s.kids == len(t.Kids))
}
