package arena

import (
	"strconv"
	"strings"

	"riposte/api"
)

// Texts are read loosely: what has not its form is read as anything. Whether it had it is told by the text of what was read, which must be the same.

// signs returns the signs of the kinds of moves.
func signs() map[uint8]string {
	return map[uint8]string{api.MoveAsk: "?", api.MovePut: "=", api.MoveTell: "!"}
}

// The other parts of texts.
const (
	escape = "*"
	jumps  = "jumps"
)

// hasText reports whether a move has a text.
func hasText(m api.Move) bool {
	if m.Id < 0 || m.Arg < 0 {
		return false
	}
	switch m.Kind {
	case api.MoveAsk:
		return m.N == 0
	case api.MovePut:
		return m.N >= 0
	case api.MoveTell:
		return m.N >= 0 || m.N == api.Esc
	}
	return false
}

// Text returns the text of a move.
func Text(m api.Move) (string, api.Errno) {
	if !hasText(m) {
		return "", api.ErrForm
	}
	s := strconv.Itoa(m.Id)
	if m.Arg > 0 {
		s += "." + strconv.Itoa(m.Arg)
	}
	return s + signs()[m.Kind] + valueText(m), api.OK
}

// valueText returns what stands behind the sign of a move.
func valueText(m api.Move) string {
	switch {
	case m.Kind == api.MoveAsk:
		return ""
	case m.N == api.Esc:
		return escape
	}
	return strconv.Itoa(m.N)
}

// Parse returns the move with a text. A text is that of one move at most, so it does not matter which sign comes first.
func Parse(s string) (api.Move, api.Errno) {
	for kind, sign := range signs() {
		m := readMove(s, kind, sign)
		if t, e := Text(m); e == api.OK && t == s {
			return m, api.OK
		}
	}
	return api.Move{}, api.ErrForm
}

// readMove reads a move of a kind, loosely.
func readMove(s string, kind uint8, sign string) api.Move {
	at, value, _ := strings.Cut(s, sign)
	id, arg, _ := strings.Cut(at, ".")
	m := api.Move{Id: readNumber(id), Arg: readNumber(arg), Kind: kind, N: readNumber(value)}
	if value == escape {
		m.N = api.Esc
	}
	return m
}

// readNumber reads a number, loosely.
func readNumber(s string) int {
	n, _ := strconv.Atoi(s) // what is no number is read as any
	return n
}

// Show returns the text of an arena.
func Show(a api.Arena) (string, api.Errno) {
	if e := Check(a); e != api.OK {
		return "", e
	}
	parts := append([]string{baseText(a.Root)}, each(a.Ids, typeText)...)
	if a.Jumps {
		parts = append(parts, jumps)
	}
	return strings.Join(parts, "; "), api.OK
}

// baseText and typeText return the text of a base type and of a type.
func baseText(b api.Base) string {
	kind := "int "
	if b.Cell {
		kind = "cell "
	}
	return kind + strconv.Itoa(b.N)
}

func typeText(t api.Type) string {
	if len(t.Params) == 0 {
		return baseText(t.Result)
	}
	return "(" + strings.Join(each(t.Params, baseText), ", ") + ") -> " + baseText(t.Result)
}

// Read returns the arena with a text.
func Read(s string) (api.Arena, api.Errno) {
	a := readArena(s)
	if t, e := Show(a); e == api.OK && t == s {
		return a, api.OK
	}
	return api.Arena{}, api.ErrForm
}

// readArena, readType and readBase read loosely.
func readArena(s string) api.Arena {
	s, jump := strings.CutSuffix(s, "; "+jumps)
	parts := strings.Split(s, "; ")
	return api.Arena{Ids: each(parts[1:], readType), Root: readBase(parts[0]), Jumps: jump}
}

func readType(s string) api.Type {
	params, result, ok := strings.Cut(strings.TrimPrefix(s, "("), ") -> ")
	if !ok {
		return api.Type{Result: readBase(s)}
	}
	return api.Type{Params: each(strings.Split(params, ", "), readBase), Result: readBase(result)}
}

func readBase(s string) api.Base {
	kind, n, _ := strings.Cut(s, " ")
	return api.Base{Cell: kind == "cell", N: readNumber(n)}
}
