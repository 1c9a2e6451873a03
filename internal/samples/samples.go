// Package samples writes any programs without errors, for the tests of several layers.
package samples

import (
	"slices"
	"strconv"
	"strings"

	"riposte/api"
	"riposte/parse"
)

// Tree returns the tree of a program without an error, whose export is m. It has definitions and arguments of all kinds, and all names in it are different. What it is, is chosen: choose returns a number from 0 on that is less than another one.
func Tree(choose func(n int) int) api.Tree {
	for {
		t, _, e := parse.Parse((&maker{choose: choose}).program())
		if e == api.OK { // not too long
			return t
		}
	}
}

// known is a name in sight: the kind of its declaration, and its type as a text.
type known struct {
	text, typed string
	kind        uint8
}

// maker writes a program.
type maker struct {
	choose func(n int) int
	sight  []known
	count  int // names
	left   int // terms, before all becomes short
}

// Types of params and imports, by which names are chosen; the numbers are few, so that many fit.
func integers() []string { return []string{"int 1", "int 2", "int 3"} }

func cells() []string { return []string{"cell 2", "cell 3"} }

func arrows() []string {
	return []string{"(int 1)->int 1", "(int 3)->int 3", "(cell 3)->int 1", "(int 2,cell 3)->int 2", "(int 1,int 1)->int 3"}
}

// pick chooses one of a list.
func pick[T any](choose func(int) int, l ...T) T { return l[choose(len(l))] }

// fresh returns the next name.
func (m *maker) fresh(letter string) string {
	m.count++
	return letter + strconv.Itoa(m.count)
}

// anyType returns a type: an integer, a cell, or one with params.
func (m *maker) anyType() string {
	return pick(m.choose, pick(m.choose, integers()...), pick(m.choose, cells()...), pick(m.choose, arrows()...))
}

// program returns the text of a program: imports and definitions, the export, and perhaps an import behind it.
func (m *maker) program() string {
	var s strings.Builder
	imports := 0
	for range 2 + m.choose(5) {
		if m.choose(3) > 0 && imports < 5 || imports == 0 {
			imports++
			x := known{m.fresh("i"), m.anyType(), api.ImportItem}
			s.WriteString("import " + x.text + ":" + x.typed + ";")
			m.sight = append(m.sight, x)
		} else {
			s.WriteString(m.definition())
		}
	}
	s.WriteString(m.item("export", "m", pick(m.choose, integers()...), m.choose(3)))
	if m.choose(3) == 0 {
		s.WriteString("import z:" + m.anyType() + ";")
	}
	return s.String()
}

// definition returns an item that is in sight from then on. It can be an argument if its type is one of arrows.
func (m *maker) definition() string {
	name, base := m.fresh("d"), pick(m.choose, integers()...)
	typed := base
	var s string
	if arrow := pick(m.choose, arrows()...); m.choose(2) == 0 {
		list, result, _ := strings.Cut(arrow[1:], ")->")
		s, typed = m.item("def", name, result, 0, strings.Split(list, ",")...), arrow
	} else if m.choose(3) == 0 {
		s = m.item("def", name, base, 0)
	} else {
		var params []string
		for range 1 + m.choose(3) {
			params = append(params, m.anyType())
		}
		s = m.item("def", name, base, 0, params...)
		typed = strings.Join(params, ";") + "=>" + base // what a call of it takes
	}
	m.sight = append(m.sight, known{name, typed, api.DefItem})
	return s
}

// item returns an item with params of some types, and of some more that are any.
func (m *maker) item(word, name, base string, more int, params ...string) string {
	m.left = 4 + m.choose(24)
	for range more {
		params = append(params, m.anyType())
	}
	var names []known
	var texts []string
	for _, p := range params {
		x := known{m.fresh("p"), p, api.ParamNode}
		names, texts = append(names, x), append(texts, x.text+":"+p)
	}
	var term string
	m.with(names, func() { term = m.term(sizeOf(base), false) })
	return word + " " + name + "(" + strings.Join(texts, ",") + "):" + base + "=" + term + ";"
}

// sizeOf returns the size in a base type.
func sizeOf(base string) int {
	n, _ := strconv.Atoi(base[strings.Index(base, " ")+1:])
	return n
}

// with makes something where further names are in sight.
func (m *maker) with(names []known, make func()) {
	before := len(m.sight)
	m.sight = append(m.sight, names...)
	make()
	m.sight = m.sight[:before]
}

// among returns the names in sight of a type.
func (m *maker) among(typed string) []known {
	return slices.DeleteFunc(slices.Clone(m.sight), func(x known) bool { return x.typed != typed })
}

// callable returns the names in sight whose calls have a result.
func (m *maker) callable(base string) []known {
	return slices.DeleteFunc(slices.Clone(m.sight), func(x known) bool {
		return !strings.HasSuffix(x.typed, "->"+base) && !strings.HasSuffix(x.typed, "=>"+base)
	})
}

// leaf returns a term without kids; one that has a size of its own, if it must.
func (m *maker) leaf(size int, own bool) string {
	base := "int " + strconv.Itoa(size)
	if l := m.among(base); len(l) > 0 && m.choose(4) > 0 {
		return pick(m.choose, l...).text
	}
	if l := m.among("cell " + strconv.Itoa(size)); len(l) > 0 && m.choose(4) > 0 {
		return "!" + pick(m.choose, l...).text
	}
	if l := m.among("label"); size == 1 && len(l) > 0 && m.choose(3) > 0 {
		return "jump " + pick(m.choose, l...).text
	}
	n := strconv.Itoa(m.choose(size))
	switch {
	case size == 1 && m.choose(2) == 0:
		return pick(m.choose, "skip", "skip", "skip", "skip", "hang")
	case size == 2 && m.choose(2) == 0:
		return pick(m.choose, "true", "false")
	case own || m.choose(3) == 0:
		return "(" + strconv.Itoa(m.choose(9)) + " as " + strconv.Itoa(size) + ")"
	}
	return n
}

// term returns a term of a size, in brackets if it is not short.
func (m *maker) term(size int, own bool) string {
	m.left--
	if m.left <= 0 || m.choose(9) == 0 {
		return m.leaf(size, own)
	}
	if l := m.callable("int " + strconv.Itoa(size)); len(l) > 0 && m.choose(3) == 0 {
		return m.call(pick(m.choose, l...))
	}
	if size == 2 && m.choose(3) == 0 {
		return "(" + m.test() + ")"
	}
	if size == 1 && m.choose(2) == 0 {
		return "(" + m.command() + ")"
	}
	return "(" + m.passing(size, own) + ")"
}

// anySize returns a term that has some size of its own.
func (m *maker) anySize() string { return m.term(1+m.choose(3), true) }

// test returns a term of the size 2 that says yes or no.
func (m *maker) test() string {
	size := 1 + m.choose(3)
	switch m.choose(5) {
	case 0:
		return m.term(2, false) + pick(m.choose, " or ", " and ") + m.term(2, false)
	case 1:
		return "not " + m.term(2, false)
	case 2:
		return m.term(size, false) + pick(m.choose, "=", "<") + m.term(size, true)
	}
	return m.term(size, true) + pick(m.choose, "=", "<") + m.term(size, false)
}

// command returns a term that makes a cell become something, or a loop, which mostly comes to an end.
func (m *maker) command() string {
	cell := pick(m.choose, cells()...)
	if l := m.among(cell); len(l) > 0 && m.choose(4) > 0 {
		return pick(m.choose, l...).text + ":=" + m.term(sizeOf(cell), false)
	}
	if m.choose(3) == 0 {
		return "while " + m.anySize() + " do " + m.term(1, false)
	}
	x := known{m.fresh("c"), "cell 3", api.NewNode}
	var body string
	m.with([]known{x}, func() { body = m.term(1, false) })
	return "new " + x.text + ":3:=2 in while !" + x.text + " do(" + body + ";" + x.text + ":=!" + x.text + "-1)"
}

// passing returns a term of any size.
func (m *maker) passing(size int, own bool) (s string) {
	switch m.choose(9) {
	case 0, 1:
		return m.term(1, false) + ";" + m.term(size, own)
	case 2:
		return "if " + m.anySize() + " then " + m.term(size, own) + " else " + m.term(size, false)
	case 3:
		cell := pick(m.choose, cells()...)
		x := known{m.fresh("c"), cell, api.NewNode}
		m.with([]known{x}, func() {
			s = "new " + x.text + ":" + cell[5:] + ":=" + strconv.Itoa(m.choose(sizeOf(cell))) + " in " + m.term(size, own)
		})
		return s
	case 4:
		x := known{m.fresh("l"), "label", api.LabelNode}
		m.with([]known{x}, func() { s = "label " + x.text + " in " + m.term(size, own) })
		return s + " else " + m.term(size, false)
	case 5:
		if l := slices.DeleteFunc(slices.Clone(m.sight), func(x known) bool { return x.kind != api.NewNode }); len(l) > 0 {
			x := pick(m.choose, l...)
			return "notice " + x.text + ":=" + strconv.Itoa(m.choose(sizeOf(x.typed))) + " in " + m.term(size, own)
		}
	case 6:
		return "choose " + m.term(size, own) + " else " + m.term(size, false)
	case 7:
		return m.anySize() + " as " + strconv.Itoa(size)
	}
	return m.term(size, own) + pick(m.choose, "+", "-", "*") + m.term(size, false)
}

// call returns a call with arguments.
func (m *maker) call(x known) string {
	list, _, _ := strings.Cut(x.typed, ")->")
	params := strings.Split(strings.TrimPrefix(list, "("), ",")
	if before, _, ok := strings.Cut(x.typed, "=>"); ok {
		params = strings.Split(before, ";")
	}
	var args []string
	for _, p := range params {
		args = append(args, m.arg(p))
	}
	return x.text + "(" + strings.Join(args, ",") + ")"
}

// arg returns an argument for a param of a type.
func (m *maker) arg(p string) (s string) {
	integer := strings.HasPrefix(p, "int ")
	if l := m.among(p); len(l) > 0 && !integer && m.choose(3) > 0 {
		return pick(m.choose, l...).text
	}
	if integer {
		return m.term(sizeOf(p), false)
	}
	if strings.HasPrefix(p, "cell ") {
		v := known{m.fresh("v"), "int " + p[5:], api.BindNode}
		s = "{get " + m.term(sizeOf(p), false) + ";put " + v.text + "."
		m.with([]known{v}, func() { s += m.term(1, false) + "}" })
		return s
	}
	list, result, _ := strings.Cut(p[1:], ")->")
	var binds []known
	var names []string
	for _, b := range strings.Split(list, ",") {
		x := known{m.fresh("b"), b, api.BindNode}
		binds, names = append(binds, x), append(names, x.text)
	}
	m.with(binds, func() { s = "fn(" + strings.Join(names, ",") + ")" + m.term(sizeOf(result), false) })
	return s
}
