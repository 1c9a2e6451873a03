package lex

import (
	"slices"
	"strings"
	"testing"

	"riposte/api"
)

// cut returns a splice.
func cut(from, to int, s string) api.Splice { return api.Splice{From: from, To: to, Text: s} }

// P1.5, P1.6: what splices do, and what undoes them.
func TestApplyAndUndo(t *testing.T) {
	for i, x := range []struct {
		s    string
		l    []api.Splice
		want string
		undo []api.Splice
	}{
		{"", nil, "", nil}, {"abc", nil, "abc", nil}, {"", []api.Splice{cut(0, 0, "")}, "", []api.Splice{cut(0, 0, "")}}, {"", []api.Splice{cut(0, 0, "x")}, "x", []api.Splice{cut(0, 1, "")}},
		{"abc", []api.Splice{cut(1, 2, "xy")}, "axyc", []api.Splice{cut(1, 3, "b")}}, {"abc", []api.Splice{cut(0, 3, "")}, "", []api.Splice{cut(0, 0, "abc")}}, {"abc", []api.Splice{cut(3, 3, "\n")}, "abc\n", []api.Splice{cut(3, 4, "")}},
		{"abcd", []api.Splice{cut(0, 1, ""), cut(1, 1, "xyz"), cut(1, 3, "-"), cut(4, 4, "!")}, "xyz-d!", []api.Splice{cut(0, 0, "a"), cut(0, 3, ""), cut(3, 4, "bc"), cut(5, 6, "")}},
		{"abcd", []api.Splice{cut(1, 1, "1"), cut(1, 1, "2"), cut(1, 2, "3"), cut(2, 2, "4")}, "a1234cd", []api.Splice{cut(1, 2, ""), cut(2, 3, ""), cut(3, 4, "b"), cut(4, 5, "")}},
		{"# 01", []api.Splice{cut(0, 1, "$")}, "$ 01", []api.Splice{cut(0, 1, "#")}},
	} {
		if s, e := Apply(x.s, x.l); s != x.want || e != api.OK {
			t.Errorf("%d: Apply: %q, %v", i, s, e)
		}
		if l, e := Undo(x.s, x.l); !slices.Equal(l, x.undo) || e != api.OK {
			t.Errorf("%d: Undo: %v, %v", i, l, e)
		}
	}
}

// wrongSplices are texts with splices, and their errors.
func wrongSplices() []struct {
	s string
	l []api.Splice
	e api.Errno
} {
	const most, least = 1<<63 - 1, -1 << 63
	none := slices.Repeat([]api.Splice{cut(0, 0, "")}, 40)
	return []struct {
		s string
		l []api.Splice
		e api.Errno
	}{
		{long(2501), none, api.ErrLimit}, {"\t" + long(2500), nil, api.ErrLimit}, {"a\t", slices.Repeat([]api.Splice{cut(5, 5, "")}, 41), api.ErrArg},
		{"a", slices.Repeat([]api.Splice{cut(5, 5, "\t")}, 41), api.ErrLimit},
		{"abc", []api.Splice{cut(-1, 0, "")}, api.ErrRange}, {"abc", []api.Splice{cut(2, 1, "")}, api.ErrRange}, {"abc", []api.Splice{cut(2, 4, "")}, api.ErrRange}, {"abc", []api.Splice{cut(4, 4, "")}, api.ErrRange}, {"abc", []api.Splice{cut(0, most, "")}, api.ErrRange}, {"abc", []api.Splice{cut(least, most, "")}, api.ErrRange}, {"abc", []api.Splice{cut(0, -1, "")}, api.ErrRange},
		{"abc", []api.Splice{cut(0, 2, ""), cut(1, 2, "")}, api.ErrRange}, {"abc", []api.Splice{cut(2, 2, ""), cut(1, 1, "")}, api.ErrRange}, {"abc", []api.Splice{cut(0, 1, "\t"), cut(0, 2, "")}, api.ErrRange},
		{"abc", []api.Splice{cut(0, 1, "\t")}, api.ErrArg}, {"abc", []api.Splice{cut(0, 0, long(2501)), cut(0, 1, "\x7f")}, api.ErrArg}, {"abc", []api.Splice{cut(0, 0, strings.Repeat("\x1f", 9999))}, api.ErrArg},
		{"abc", []api.Splice{cut(3, 3, long(2498))}, api.ErrLimit}, {"abc", []api.Splice{cut(0, 0, long(1250)), cut(1, 2, long(1249))}, api.ErrLimit}, {long(2500), append(slices.Clone(none[:39]), cut(2500, 2500, "x")), api.ErrLimit},
	}
}

// P1.5, P1.6, P1.8: the errors of splices, and their order.
func TestSplicesWithErrors(t *testing.T) {
	for i, x := range wrongSplices() {
		if s, e := Apply(x.s, x.l); s != "" || e != x.e {
			t.Errorf("%d: Apply: %q, %v", i, s, e)
		}
		if l, e := Undo(x.s, x.l); len(l) != 0 || e != x.e {
			t.Errorf("%d: Undo: %v, %v", i, l, e)
		}
		if at, e := Moved(x.s, x.l, -1); at != 0 || e != x.e {
			t.Errorf("%d: Moved: %d, %v", i, at, e)
		}
		if len(x.l) == 1 {
			if h, n, e := Kept(x.s, x.l[0]); h != 0 || n != 0 || e != x.e {
				t.Errorf("%d: Kept: %d, %d, %v", i, h, n, e)
			}
		}
	}
}

// P1.5, P1.6: each limit can be reached, and a text may be too long on the way if it is not at the end.
func TestSplicesAtLimits(t *testing.T) {
	if s, e := Apply("abc", []api.Splice{cut(3, 3, long(2497))}); s != "abc"+long(2497) || e != api.OK {
		t.Errorf("2500 bytes: %d, %v", len(s), e)
	}
	all := []api.Splice{cut(0, 0, long(2500)), cut(0, 2500, "")}
	if s, e := Apply(long(2500), all); s != long(2500) || e != api.OK {
		t.Errorf("all of it: %d, %v", len(s), e)
	}
	if l, e := Undo(long(2500), all); len(l) != 2 || e != api.OK {
		t.Errorf("Undo of all of it: %v, %v", l, e)
	}
	if s, e := Apply("ab", slices.Repeat([]api.Splice{cut(1, 1, "x")}, 40)); s != "a"+strings.Repeat("x", 40)+"b" || e != api.OK {
		t.Errorf("40 splices: %q, %v", s, e)
	}
}

// P1.5: where bytes stand after splices; -1 of those that are taken out.
func TestMoved(t *testing.T) {
	for i, x := range []struct {
		s    string
		l    []api.Splice
		want []int
	}{
		{"", nil, []int{0}}, {"abc", nil, []int{0, 1, 2, 3}}, {"abc", []api.Splice{cut(1, 2, "xy")}, []int{0, -1, 3, 4}}, {"abc", []api.Splice{cut(0, 0, "x")}, []int{1, 2, 3, 4}}, {"abc", []api.Splice{cut(3, 3, "x")}, []int{0, 1, 2, 4}}, {"abc", []api.Splice{cut(0, 3, "")}, []int{-1, -1, -1, 0}},
		{"abcd", []api.Splice{cut(1, 2, "xy"), cut(3, 3, "z")}, []int{0, -1, 3, 5, 6}}, {"abcd", []api.Splice{cut(0, 1, ""), cut(1, 1, "12"), cut(1, 1, "3"), cut(2, 4, "")}, []int{-1, 3, -1, -1, 4}}, {"", []api.Splice{cut(0, 0, "xy"), cut(0, 0, "z")}, []int{3}},
	} {
		for at, want := range x.want {
			n, e := Moved(x.s, x.l, at)
			if want >= 0 && (n != want || e != api.OK) || want < 0 && (n != 0 || e != api.ErrNone) {
				t.Errorf("%d: Moved of %d: %d, %v", i, at, n, e)
			}
		}
		for _, at := range []int{-1, len(x.s) + 1, 1<<63 - 1, -1 << 63} {
			if n, e := Moved(x.s, x.l, at); n != 0 || e != api.ErrRange {
				t.Errorf("%d: Moved of %d: %d, %v", i, at, n, e)
			}
		}
	}
}

// P1.7: one splice, as far behind and as short as can be.
func TestDiff(t *testing.T) {
	for _, x := range []struct {
		a, b string
		want []api.Splice
		e    api.Errno
	}{
		{"", "", nil, api.OK}, {"abc", "abc", nil, api.OK}, {long(2500), long(2500), nil, api.OK}, {"aab", "ab", []api.Splice{cut(1, 2, "")}, api.OK}, {"ab", "aab", []api.Splice{cut(1, 1, "a")}, api.OK}, {"", "xy", []api.Splice{cut(0, 0, "xy")}, api.OK}, {"xy", "", []api.Splice{cut(0, 2, "")}, api.OK},
		{"abcd", "axyd", []api.Splice{cut(1, 3, "xy")}, api.OK}, {"aaa", "aa", []api.Splice{cut(2, 3, "")}, api.OK}, {"aa", "aaa", []api.Splice{cut(2, 2, "a")}, api.OK}, {"abab", "ab", []api.Splice{cut(2, 4, "")}, api.OK}, {"abc", "xbc", []api.Splice{cut(0, 1, "x")}, api.OK}, {"abc", "abx", []api.Splice{cut(2, 3, "x")}, api.OK}, {"# 01", "# 02", []api.Splice{cut(3, 4, "2")}, api.OK},
		{"\t", long(2501), nil, api.ErrArg}, {long(2501), "\t", nil, api.ErrLimit}, {"x", "\t", nil, api.ErrArg}, {"x", long(2501), nil, api.ErrLimit}, {"\t", "\t", nil, api.ErrArg}, {long(2501), long(2501), nil, api.ErrLimit},
	} {
		if l, e := Diff(x.a, x.b); !slices.Equal(l, x.want) || e != x.e {
			t.Errorf("%q, %q: %v, %v", x.a, x.b, l, e)
		}
	}
}

// P1.8: tokens that stay.
func TestKept(t *testing.T) {
	for _, x := range []struct {
		s          string
		x          api.Splice
		head, tail int
		e          api.Errno
	}{
		{"", cut(0, 0, ""), 0, 0, api.OK}, {"a b c", cut(2, 3, "d e"), 1, 1, api.OK}, {"a b c", cut(2, 3, "b"), 3, 0, api.OK}, {"a b c", cut(0, 0, " "), 0, 3, api.OK}, {"a b c", cut(0, 0, "x"), 0, 2, api.OK}, {"a b c", cut(5, 5, "x"), 2, 0, api.OK}, {"a b c", cut(5, 5, " x"), 3, 0, api.OK}, {"a b c", cut(1, 2, ""), 0, 1, api.OK}, {"a b c", cut(0, 5, ""), 0, 0, api.OK},
		{"a b\nc", cut(1, 1, "~"), 1, 1, api.OK}, {"a ~b\nc", cut(2, 3, ""), 1, 1, api.OK}, {"a a a", cut(0, 2, ""), 2, 0, api.OK}, {"a a a", cut(0, 0, "a "), 3, 0, api.OK}, {"f : = x", cut(3, 4, ""), 1, 1, api.OK}, {"if a", cut(2, 2, "f"), 0, 1, api.OK}, {"+ x", cut(0, 1, "1"), 0, 1, api.OK}, {"a b", cut(2, 3, "1"), 1, 0, api.OK},
		{"a # c", cut(0, 1, ""), 0, 0, api.ErrForm}, {"a b", cut(0, 1, "01"), 0, 0, api.ErrForm}, {"9999999", cut(0, 0, "0"), 0, 0, api.ErrRange}, {"0", cut(0, 1, "9999999"), 0, 0, api.ErrRange}, {"#", cut(0, 1, ""), 0, 0, api.ErrForm}, {"#", cut(0, 2, ""), 0, 0, api.ErrRange}, {"#", cut(0, 1, "\t"), 0, 0, api.ErrArg}, {strings.Repeat(";", 901), cut(0, 1, ""), 0, 0, api.ErrLimit}, {strings.Repeat(";", 900), cut(0, 0, ";"), 0, 0, api.ErrLimit}, {strings.Repeat(";", 900), cut(0, 0, " "), 0, 900, api.OK},
	} {
		if h, n, e := Kept(x.s, x.x); h != x.head || n != x.tail || e != x.e {
			t.Errorf("%q, %v: %d, %d, %v", x.s, x.x, h, n, e)
		}
	}
}

// P1.9: names that become others.
func TestRename(t *testing.T) {
	for _, x := range []struct {
		s, old, name, want string
		e                  api.Errno
	}{
		{"x + xs", "x", "y", "y + xs", api.OK}, {"x ~x\n(x)x1 x", "x", "abcdefghijkl", "abcdefghijkl ~x\n(abcdefghijkl)x1 abcdefghijkl", api.OK}, {"longname;longname", "longname", "l", "l;l", api.OK}, {"~x\nx", "x", "y", "~x\ny", api.OK}, {"x ~y", "x", "y", "y ~y", api.OK},
		{"x + xs", "x", "xs", "", api.ErrTwice}, {"x", "x", "x", "", api.ErrTwice}, {"x + xs", "x", "if", "", api.ErrArg}, {"if", "if", "y", "", api.ErrArg}, {"x", "x", "", "", api.ErrArg}, {"x", "", "y", "", api.ErrArg}, {"x", "x", "Y", "", api.ErrArg}, {"x", "x", "abcdefghijklm", "", api.ErrArg}, {"x", "x ", "y", "", api.ErrArg}, {"1", "1", "y", "", api.ErrArg}, {"x", "x", "y~", "", api.ErrArg},
		{"", "x", "y", "", api.ErrNone}, {"~x", "x", "y", "", api.ErrNone}, {"y", "x", "y", "", api.ErrNone}, {"y", "x", "if", "", api.ErrArg}, {"x 01", "x", "if", "", api.ErrForm}, {"9999999 x", "X", "y", "", api.ErrRange}, {"x \t", "x", "if", "", api.ErrArg}, {long(2501), "X", "", "", api.ErrLimit}, {strings.Repeat(";", 900) + "x", "x", "y", "", api.ErrLimit},
	} {
		if s, e := Rename(x.s, x.old, x.name); s != x.want || e != x.e {
			t.Errorf("%q, %q to %q: %q, %v", x.s, x.old, x.name, s, e)
		}
	}
}

// P1.9: the limit of a text that is renamed, and more names than there may be splices.
func TestRenameAtLimits(t *testing.T) {
	s := strings.Repeat("x ", 100) + "y" + strings.Repeat(" ", 1199)
	if r, e := Rename(s, "x", "abcdefghijkl"); len(r) != 2500 || e != api.OK {
		t.Errorf("2500 bytes: %d, %v", len(r), e)
	}
	if r, e := Rename(s+" ", "x", "abcdefghijkl"); r != "" || e != api.ErrLimit {
		t.Errorf("2501 bytes: %d, %v", len(r), e)
	}
	if r, e := Rename(s+" ", "x", "y"); r != "" || e != api.ErrTwice {
		t.Errorf("a name that is there: %q, %v", r, e)
	}
}
