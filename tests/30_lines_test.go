package tests

import (
	"math/rand"
	"strings"
	"testing"

	"spandrel/api"
	"spandrel/lines"
)

func word(w string) lines.Expr { return lines.Expr{Word: w} }

func listOf(l ...lines.Expr) lines.Expr { return lines.Expr{Kids: l} }

func trees(l ...lines.Expr) []lines.Expr { return l }

// nestedList is a list so deep.
func nestedList(deep int) lines.Expr {
	x := listOf()
	for range deep - 1 {
		x = listOf(x)
	}
	return x
}

func TestP30_1(t *testing.T) {
	a, b := word("a"), word("b")
	deep := func(n int) string { return strings.Repeat("(", n) + strings.Repeat(")", n) }
	for i, c := range []struct {
		text string
		want []lines.Expr
		e    api.Errno
	}{
		{"", nil, api.OK}, {" \t\r\n", nil, api.OK}, {"a", trees(a), api.OK}, {"a b", trees(a, b), api.OK}, {"ab", trees(word("ab")), api.OK}, {"a\tb\r\na", trees(a, b, a), api.OK},
		{"(a b); c\n()", trees(listOf(a, b), listOf()), api.OK}, {"(a(b)a)", trees(listOf(a, listOf(b), a)), api.OK}, {"a(b)", trees(a, listOf(b)), api.OK}, {"(a)b", trees(listOf(a), b), api.OK}, {"()()", trees(listOf(), listOf()), api.OK},
		{";a", nil, api.OK}, {"a;b\nb", trees(a, b), api.OK}, {"a;b;\n;\n\n(b;)\n)", trees(a, listOf(b)), api.OK}, {"a;(\rb", trees(a), api.OK},
		{"a\x00b \xff\xfe \v\u00a0", trees(word("a\x00b"), word("\xff\xfe"), word("\v\u00a0")), api.OK}, {"ä→[]{}\"'", trees(word("ä→[]{}\"'")), api.OK},
		{"(", nil, api.ErrShape}, {")", nil, api.ErrShape}, {"(a", nil, api.ErrShape}, {"a)", nil, api.ErrShape}, {"(a))", nil, api.ErrShape}, {"(;)", nil, api.ErrShape},
		{deep(400), trees(nestedList(400)), api.OK}, {deep(401), nil, api.ErrLong}, {strings.Repeat("(", 401), nil, api.ErrLong}, {strings.Repeat("(", 400), nil, api.ErrShape}, {strings.Repeat("(", 400) + "a", nil, api.ErrLong}, {strings.Repeat("(", 400) + ";a", nil, api.ErrShape},
		{")" + deep(401), nil, api.ErrShape}, {deep(401) + ")", nil, api.ErrLong}, {strings.Repeat("(", 100000), nil, api.ErrLong},
		{strings.Repeat(" ", api.MaxScript), nil, api.OK}, {strings.Repeat(" ", api.MaxScript+1), nil, api.ErrLong}, {strings.Repeat(")", api.MaxScript+1), nil, api.ErrLong},
	} {
		l, e := lines.Read(c.text)
		if e != c.e || !same(l, c.want) {
			t.Error(i, e, len(l))
		}
	}
	if l, e := lines.Read(strings.Repeat("(", 399) + "a" + strings.Repeat(")", 399)); e != api.OK || lines.Deep(l[0]) != 400 {
		t.Error("a word 400 deep")
	}
	if l, e := lines.Read(strings.Repeat("a ", api.MaxScript/2)); e != api.OK || len(l) != api.MaxScript/2 {
		t.Error("many words")
	}
}

func TestP30_2(t *testing.T) {
	a, b := word("a"), word("b")
	for i, c := range []struct {
		x    []lines.Expr
		want string
		e    api.Errno
	}{
		{nil, "", api.OK}, {trees(a), "a", api.OK}, {trees(a, b), "a b", api.OK}, {trees(listOf()), "()", api.OK}, {trees(listOf(a, listOf(b, listOf()), a), b), "(a (b ()) a) b", api.OK},
		{trees(lines.Expr{Word: "a", Kids: trees(b)}), "", api.ErrShape}, {trees(a, listOf(lines.Expr{Word: "a", Kids: trees(b)})), "", api.ErrShape}, {trees(lines.Expr{Word: "a", Kids: trees()}), "a", api.OK},
		{trees(word("a b")), "", api.ErrShape}, {trees(word("(")), "", api.ErrShape}, {trees(word("a)")), "", api.ErrShape}, {trees(word(";")), "", api.ErrShape}, {trees(word("\n")), "", api.ErrShape}, {trees(word("a\t")), "", api.ErrShape}, {trees(word("\r")), "", api.ErrShape},
		{trees(word("ä\x00\v")), "ä\x00\v", api.OK}, {trees(nestedList(401)), "", api.ErrLong}, {trees(nestedList(401), word(" ")), "", api.ErrShape}, {trees(nestedList(200000)), "", api.ErrLong},
		{trees(word(strings.Repeat("a", api.MaxScript+1)), word(" ")), "", api.ErrShape}, {trees(word(strings.Repeat("a", api.MaxScript+1))), "", api.ErrLong},
	} {
		text, e := lines.Write(c.x...)
		if text != c.want || e != c.e {
			t.Error(i, text, e)
		}
	}
	full := word(strings.Repeat("a", api.MaxScript-4))
	for i, c := range []struct {
		x []lines.Expr
		n int
	}{{trees(full), api.MaxScript - 4}, {trees(full, a), api.MaxScript - 2}, {trees(full, word("aaa")), api.MaxScript}, {trees(full, word("aaaa")), 0}, {trees(listOf(full, a)), api.MaxScript}, {trees(listOf(full, word("aa"))), 0}, {trees(full, listOf()), api.MaxScript - 1}, {trees(full, listOf(word("aa"))), 0}} {
		text, e := lines.Write(c.x...)
		if len(text) != c.n || (e == api.OK) != (c.n > 0) {
			t.Error("room", i, len(text), e)
		}
	}
	for i, c := range []struct {
		x    lines.Expr
		want int
	}{{a, 1}, {listOf(), 1}, {listOf(a), 2}, {listOf(a, listOf(b), a), 3}, {nestedList(500000), 500000}, {lines.Expr{Word: "a", Kids: trees(listOf(b))}, 3}} {
		if n := lines.Deep(c.x); n != c.want {
			t.Error("Deep", i, n)
		}
	}
}

// anyTree is a tree.
func anyTree(r *rand.Rand, deep int) lines.Expr {
	if deep == 0 || r.Intn(3) == 0 {
		letters := []string{"a", "b", "pi", "\xf0", "+", "0", "ü", "\"", "'", "[", "x1"}
		w := ""
		for range 1 + r.Intn(3) {
			w += letters[r.Intn(len(letters))]
		}
		return word(w)
	}
	x := listOf()
	for range r.Intn(4) {
		x.Kids = append(x.Kids, anyTree(r, deep-1))
	}
	return x
}

func TestP30_3(t *testing.T) {
	r := chance(30)
	for range 3000 {
		var l []lines.Expr
		for range r.Intn(4) {
			l = append(l, anyTree(r, 5))
		}
		text, e := lines.Write(l...)
		want(t, "Write", e, api.OK)
		back, e := lines.Read(text)
		want(t, "Read", e, api.OK)
		want(t, "Read", back, l)
		signs := "ab() \n\t;"
		var noise strings.Builder
		for range r.Intn(30) {
			noise.WriteByte(signs[r.Intn(len(signs))])
		}
		read, e := lines.Read(noise.String())
		if e != api.OK {
			continue
		}
		text, e = lines.Write(read...)
		want(t, "written", e, api.OK)
		again, e := lines.Read(text)
		want(t, "read again", e, api.OK)
		want(t, "read again", again, read)
	}
}
