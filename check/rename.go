package check

import (
	"slices"

	"riposte/api"
	"riposte/parse"
)

// Rename returns the program in which a declaration, and all that mean it, have another name.
func Rename(t api.Tree, n int, name string) (api.Tree, api.Errno) {
	s, e := look(t, n)
	if e != api.OK {
		return api.Tree{}, e
	}
	if _, e := Program(t); e != api.OK {
		return api.Tree{}, e
	}
	if !s.isDeclaration(n) {
		return api.Tree{}, api.ErrNone
	}
	renamed := api.Tree{Nodes: slices.Clone(t.Nodes)}
	for _, m := range append(s.uses(n), n) {
		renamed.Nodes[m].Text = name
	}
	if parse.Check(renamed) != api.OK { // only the name can be wrong
		return api.Tree{}, api.ErrArg
	}
	if _, e := Program(renamed); e != api.OK {
		return api.Tree{}, e
	}
	return renamed, api.OK
}
