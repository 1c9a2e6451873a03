package run

import (
	"riposte/api"
	"riposte/check"
	"riposte/parse"
	"riposte/play"
)

// program is an export of a program without an error, with the arena in which its words are legal, the kids of all nodes, how nodes are evaluated, and the sizes that were asked for.
type program struct {
	api.Tree
	arena  api.Arena
	export int
	kids   [][]int
	rules  map[uint8]rule
	sizes  map[int]int
}

// open returns the program of a session, or the error of the session.
func open(x api.Session) (*program, api.Errno) {
	a, e := Arena(x)
	if e != api.OK {
		return nil, e
	}
	for i, id := range a.Ids { // chapter 3 has no error for a cell as the result of a call, but in no arena of chapter 4 there is one; it is told like an integer
		a.Ids[i].Result.Cell = id.Result.Cell && len(id.Params) == 0
	}
	export, _ := parse.Find(x.T, x.Export) // what has an arena is there
	return &program{Tree: x.T, arena: a, export: export, kids: kidsOf(x.T.Nodes), rules: rules(), sizes: map[int]int{}}, api.OK
}

// kidsOf returns the kids of each node of a right tree.
func kidsOf(l []api.TreeNode) [][]int {
	all := make([][]int, len(l))
	for n, x := range l {
		for kid := n + 1; kid < n+x.Size; kid += l[kid].Size {
			all[n] = append(all[n], kid)
		}
	}
	return all
}

// sizeOf returns the size that a term is given, 0 if it is an argument that has none. Only the sizes that are needed are looked for: each takes a look at a whole item.
func (p *program) sizeOf(n int) int {
	size, known := p.sizes[n]
	if !known {
		size, _ = check.Size(p.Tree, n)
		p.sizes[n] = size
	}
	return size
}

// follow returns a word as it is followed.
func (p *program) follow(w api.Word) followed {
	legal, _ := play.Cut(p.arena, w) // neither the arena nor the word has another error
	return followed{word: w, legal: len(legal)}
}

// execute executes the program along a word.
func (p *program) execute(w followed, picks []int) (*execution, api.Errno) {
	x := &execution{program: p, followed: w, picks: picks}
	x.converse()
	if x.endless {
		return nil, api.ErrLimit
	}
	return x, api.OK
}
