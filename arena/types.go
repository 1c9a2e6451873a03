package arena

import (
	"slices"

	"riposte/api"
)

// rightOf returns an arena that is right, or its error.
func rightOf(a api.Arena) (right, api.Errno) {
	if len(a.Ids) > api.MaxIds || slices.ContainsFunc(a.Ids, isLongType) {
		return right{}, api.ErrLimit
	}
	if isWrongBase(a.Root) || slices.ContainsFunc(a.Ids, isWrongType) {
		return right{}, api.ErrForm
	}
	return right{a}, api.OK
}

// isLongType reports whether a type has too many params.
func isLongType(t api.Type) bool { return len(t.Params) > api.MaxParams }

// isWrongType reports whether a type is not right otherwise.
func isWrongType(t api.Type) bool {
	return isWrongBase(t.Result) || slices.ContainsFunc(t.Params, isWrongBase) || t.Result.Cell && len(t.Params) > 0
}

// isWrongBase reports whether a base type is not right.
func isWrongBase(b api.Base) bool { return b.N < 1 || b.N > api.MaxSize }

// ownType returns the same type in memory of its own.
func ownType(t api.Type) api.Type {
	return api.Type{Params: append([]api.Base(nil), t.Params...), Result: t.Result}
}
