package auto

import (
	"strconv"
	"strings"

	"riposte/api"
	"riposte/arena"
)

// The signs of texts.
const (
	blank    = " "
	endSign  = "*"
	toSign   = ">"
	lineFeed = "\n"
)

// written returns the text of an automaton.
func written(x api.Auto) (string, api.Errno) {
	var s strings.Builder
	for p, edges := range x.Next {
		s.WriteString(strconv.Itoa(p))
		if x.Final[p] {
			s.WriteString(endSign)
		}
		for _, e := range edges {
			m, err := arena.Text(e.Move)
			if err != api.OK {
				return "", api.ErrForm
			}
			s.WriteString(blank + m + toSign + strconv.Itoa(e.To))
		}
		s.WriteString(lineFeed)
	}
	return s.String(), api.OK
}

// read returns the automaton with a text. Of a text that is that of none it makes something else, whose text is another one, or which has an error.
func read(s string) api.Auto {
	var x api.Auto
	for line := range strings.SplitSeq(strings.TrimSuffix(s, lineFeed), lineFeed) {
		head, rest, _ := strings.Cut(line, blank)
		x.Next = append(x.Next, readEdges(rest))
		x.Final = append(x.Final, strings.HasSuffix(head, endSign))
	}
	return x
}

// readEdges reads the edges of a line.
func readEdges(s string) []api.Edge {
	var l []api.Edge
	for part := range strings.FieldsSeq(s) {
		move, to, _ := strings.Cut(part, toSign)
		m, _ := arena.Parse(move) // what is no move becomes one without a text
		n, _ := strconv.Atoi(to)
		l = append(l, api.Edge{Move: m, To: n})
	}
	return l
}
