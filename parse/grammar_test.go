package parse

import (
	"slices"
	"strconv"
	"strings"
	"testing"

	"riposte/api"
	"riposte/lex"
)

// grammarText is the grammar of the chapter. MORE is a ; behind which neither an item nor the end comes, END is any other one; ";" is each of both.
const grammarText = `
item    = "import" NAME ":" type ";" | ( "def" | "export" ) NAME "(" [ param { "," param } ] ")" ":" base "=" term END
param   = NAME ":" type
type    = base | "(" base { "," base } ")" "->" base
base    = "int" NUMBER | "cell" NUMBER | "com" | "bool"
term    = first { MORE first }
first   = "if" first "then" first "else" first | "while" first "do" first | "new" NAME ":" NUMBER ":=" NUMBER "in" first | "label" NAME "in" first "else" first | "notice" NAME ":=" NUMBER "in" first | "choose" first "else" first | NAME ":=" first | or
or      = and { "or" and }
and     = not { "and" not }
not     = "not" not | test
test    = sum [ ( "=" | "<" ) sum ]
sum     = product { ( "+" | "-" ) product }
product = cast { "*" cast }
cast    = atom { "as" NUMBER }
atom    = NUMBER | "true" | "false" | "skip" | "hang" | "jump" NAME | "!" NAME | NAME [ "(" arg { "," arg } ")" ] | "(" term ")"
arg     = "fn" "(" NAME { "," NAME } ")" first | "{" "get" first ";" "put" NAME "." first "}" | term
`

// production is one of the ways how a symbol is made of others.
type production struct {
	left  string
	right []string
}

// grammar is productions without braces and brackets, and the symbols that can be nothing.
type grammar struct {
	rules []production
	empty map[string]bool
	words []string // what is left of the rule that is read
}

// newGrammar returns the grammar of the chapter.
func newGrammar() *grammar {
	g := &grammar{empty: map[string]bool{}}
	for line := range strings.Lines(strings.TrimSpace(grammarText)) {
		left, right, _ := strings.Cut(line, " = ")
		g.words = strings.Fields(right)
		g.choices(strings.TrimSpace(left))
	}
	for range g.rules {
		for _, x := range g.rules {
			if !slices.ContainsFunc(x.right, func(s string) bool { return !g.empty[s] }) {
				g.empty[x.left] = true
			}
		}
	}
	return g
}

// choices reads what stands up to a closing bracket.
func (g *grammar) choices(left string) {
	one := production{left: left}
	for len(g.words) > 0 {
		w := g.words[0]
		g.words = g.words[1:]
		switch w {
		case "}", "]", ")":
			g.rules = append(g.rules, one)
			return
		case "|":
			g.rules = append(g.rules, one)
			one = production{left: left}
		case "{", "[", "(":
			inner := left + "/" + strconv.Itoa(len(g.rules))
			g.choices(inner)
			outer := inner + "."
			g.rules = append(g.rules, production{outer, []string{inner}})
			if w != "(" {
				g.rules = append(g.rules, production{left: outer})
			}
			if w == "{" {
				g.rules = append(g.rules, production{outer, []string{inner, outer}})
			}
			one.right = append(one.right, outer)
		default:
			one.right = append(one.right, w)
		}
	}
	g.rules = append(g.rules, one)
}

// takes reports whether a symbol is a token, of which the next one is known.
func takes(symbol string, t, next api.Token) bool {
	ends := slices.Contains([]string{"import", "def", "export", ""}, next.Text)
	switch symbol {
	case "NAME":
		return t.Kind == api.TokName
	case "NUMBER":
		return t.Kind == api.TokNumber
	case "MORE":
		return t.Text == ";" && !ends
	case "END":
		return t.Text == ";" && ends
	}
	return symbol == `"`+t.Text+`"`
}

// stage is a production that is on its way: how much of it is read, and where it began.
type stage struct{ rule, dot, from int }

// want returns the symbol that comes next.
func (g *grammar) want(x stage) string {
	if l := g.rules[x.rule].right; x.dot < len(l) {
		return l[x.dot]
	}
	return ""
}

// close completes a set of stages, the last one of all.
func (g *grammar) close(sets [][]stage) []stage {
	at := len(sets) - 1
	l := sets[at]
	add := func(x stage) {
		if !slices.Contains(l, x) {
			l = append(l, x)
		}
	}
	for i := 0; i < len(l); i++ {
		x := l[i]
		want := g.want(x)
		if want == "" {
			back := sets[x.from]
			if x.from == at {
				back = l
			}
			for _, y := range back {
				if g.want(y) == g.rules[x.rule].left {
					add(stage{y.rule, y.dot + 1, y.from})
				}
			}
			continue
		}
		for n, y := range g.rules {
			if y.left == want {
				add(stage{n, 0, at})
			}
		}
		if g.empty[want] {
			add(stage{x.rule, x.dot + 1, x.from})
		}
	}
	return l
}

// item returns how many tokens an item has that stands in front, and whether it is whole; otherwise with how many of them it goes on.
func (g *grammar) item(tokens []api.Token) (int, bool) {
	var begin []stage
	for n, x := range g.rules {
		if x.left == "item" {
			begin = append(begin, stage{n, 0, 0})
		}
	}
	sets := [][]stage{begin}
	for at, t := range append(slices.Clone(tokens), api.Token{}) {
		l := g.close(sets)
		sets[at] = l
		for _, x := range l {
			if g.rules[x.rule].left == "item" && g.want(x) == "" {
				return at, true
			}
		}
		var next api.Token
		if at+1 < len(tokens) {
			next = tokens[at+1]
		}
		var after []stage
		for _, x := range l {
			if at < len(tokens) && takes(g.want(x), t, next) {
				after = append(after, stage{x.rule, x.dot + 1, x.from})
			}
		}
		if len(after) == 0 {
			return at, false
		}
		sets = append(sets, after)
	}
	return 0, false
}

// read returns the texts of the items of a text that has tokens, and the places where others do not go on.
func (g *grammar) read(s string) (items []string, stuck []int) {
	tokens, _, _ := lex.Tokens(s)
	place := func(n int) int {
		if n < len(tokens) {
			return tokens[n].At
		}
		return len(s)
	}
	for at := 0; at < len(tokens); {
		n, whole := g.item(tokens[at:])
		if whole {
			x, _ := lex.Tight(tokens[at : at+n])
			items = append(items, x)
			at += n
			continue
		}
		stuck = append(stuck, place(at+n))
		for at = max(at+n, at+1); at < len(tokens) && !slices.Contains([]string{"import", "def", "export"}, tokens[at].Text); {
			at++
		}
	}
	return items, stuck
}

// flawed returns a program in which some tokens are changed, left out, or put in.
func flawed(t *testing.T, m *maker) string {
	s, _ := program(m.Rand, 30)
	tokens, _, e := lex.Tokens(s)
	if e != api.OK {
		t.Fatalf("Tokens of %q: %v", s, e)
	}
	all := strings.Fields("a b 1 2 = < + - * ! ( ) { } , ; ; ; : . := -> and as bool cell choose com def do else export false fn get hang if import in int jump label new not notice of or put skip then true while")
	var l []string
	for _, x := range tokens {
		l = append(l, x.Text)
	}
	for range m.IntN(3) {
		at, x := m.IntN(len(l)+1), all[m.IntN(len(all))]
		switch m.IntN(4) {
		case 0:
			l = slices.Insert(l, at, x)
		case 1:
			l = slices.Delete(l, min(at, max(0, len(l)-1)), min(at+1, len(l)))
		case 2:
			l = l[:at]
		case 3:
			if at < len(l) {
				l[at] = x
			}
		}
	}
	return strings.Join(l, " ") + strings.Repeat(" ", m.IntN(2))
}

// P2.1, P2.2: where flawed texts do not go on, and which items they have all the same, as the grammar alone says it.
func TestFlawedTexts(t *testing.T) {
	g, m := newGrammar(), &maker{Rand: source(1)}
	faulty := 0
	for range 1500 {
		s := flawed(t, m)
		items, stuck := g.read(s)
		x, faults, e := Recover(s)
		var at []int
		for _, f := range faults {
			if at = append(at, f.At); f.E != api.ErrForm {
				t.Fatalf("Recover of %q: %v", s, f)
			}
		}
		if e != api.OK || !slices.Equal(at, stuck) {
			t.Fatalf("Recover of %q: %v, %v; the grammar says %v", s, faults, e, stuck)
		}
		want := tree(t, strings.Join(items, " "))
		if !same(x, want) {
			t.Fatalf("Recover of %q: %v, not %v", s, x, want)
		}
		y, first, f := Parse(s)
		if len(stuck) > 0 {
			faulty++
			if len(y.Nodes) > 0 || first != stuck[0] || f != api.ErrForm {
				t.Fatalf("Parse of %q: %v, %d, %v; the grammar says %d", s, y, first, f, stuck[0])
			}
			continue
		}
		if !slices.Equal(y.Nodes, x.Nodes) || first != 0 || f != api.OK {
			t.Fatalf("Parse of %q: %v, %d, %v", s, y, first, f)
		}
	}
	if faulty < 300 {
		t.Errorf("only %d texts have faults", faulty)
	}
}
