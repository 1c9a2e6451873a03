package check

import (
	"maps"
	"slices"

	"riposte/api"
)

// effectOf returns the effect of a node of a kind; 0 if it has none.
func effectOf(kind uint8) int {
	switch kind {
	case api.NewNode, api.GetNode, api.PutNode, api.NoticeNode:
		return api.EffCells
	case api.JumpNode:
		return api.EffJumps
	case api.ChooseNode:
		return api.EffChoices
	case api.WhileNode:
		return api.EffLoops
	case api.HangNode:
		return api.EffHangs
	}
	return 0
}

// reach returns the DefItems that an item uses, by others, too. An item uses only those before it, so whether one is used is known when it is looked at.
func (s *scope) reach(item int) []int {
	used := map[int]bool{item: true}
	for _, other := range slices.Backward(s.row(0)) {
		if !used[other] {
			continue
		}
		for n := range s.within(other) {
			if d, ok := s.means(n); ok && s.is(d, api.DefItem) {
				used[d] = true
			}
		}
	}
	delete(used, item)
	return slices.Sorted(maps.Keys(used))
}

// Effects returns the effects of an item, as bits.
func Effects(t api.Tree, n int) (int, api.Errno) {
	s, e := lookAtItem(t, n)
	if e != api.OK {
		return 0, e
	}
	effects := 0
	for _, item := range append(s.reach(n), n) {
		for m := range s.within(item) {
			effects |= effectOf(s.Nodes[m].Kind)
		}
	}
	return effects, api.OK
}

// Reach returns the definitions that an item uses, by others, too.
func Reach(t api.Tree, n int) ([]int, api.Errno) {
	s, e := lookAtItem(t, n)
	if e != api.OK {
		return nil, e
	}
	return s.reach(n), api.OK
}
