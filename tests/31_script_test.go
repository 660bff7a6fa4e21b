package tests

import (
	"strings"
	"testing"

	"spandrel/api"
	"spandrel/lines"
	"spandrel/script"
	"spandrel/term"
)

// read is the one tree of a text.
func read(t *testing.T, text string) lines.Expr {
	t.Helper()
	l, e := lines.Read(text)
	if e != api.OK || len(l) != 1 {
		t.Fatal("no tree", text)
	}
	return l[0]
}

func TestP31_1_Level(t *testing.T) {
	nine := []string{"a", "b", "c", "d", "e", "f", "g", "h", "i"}
	for _, c := range []struct {
		levels []string
		text   string
		want   api.Level
		e      api.Errno
	}{
		{nil, "0", lv(), api.OK}, {nil, "7", lv(0, 7), api.OK}, {nil, "1000", lv(0, 1000), api.OK}, {nil, "1001", lv(), api.ErrShape}, {nil, "07", lv(), api.ErrShape}, {nil, "00", lv(), api.ErrShape}, {nil, "99999999999999999999", lv(), api.ErrShape}, {nil, "-1", lv(), api.ErrNone}, {nil, "1x", lv(), api.ErrNone},
		{[]string{"u"}, "u", lv(1, 0), api.OK}, {[]string{"u", "v"}, "v", lv(2, 0), api.OK}, {[]string{"u", "v", "u"}, "u", lv(3, 0), api.OK}, {[]string{"u"}, "w", lv(), api.ErrNone}, {nil, "u", lv(), api.ErrNone}, {nil, "max", lv(), api.ErrShape}, {nil, "+", lv(), api.ErrShape}, {nil, "type", lv(), api.ErrShape}, {[]string{"0"}, "0", lv(), api.OK}, {[]string{"007"}, "007", lv(1, 0), api.OK}, {[]string{"pi"}, "pi", lv(1, 0), api.OK},
		{[]string{"u"}, "(max)", lv(), api.OK}, {[]string{"u"}, "(max u)", lv(1, 0), api.OK}, {[]string{"u"}, "(max 3 u)", lv(0, 3, 1, 0), api.OK}, {[]string{"u"}, "(max u w 07)", lv(), api.ErrNone}, {[]string{"u"}, "(max u 07 w)", lv(), api.ErrShape},
		{[]string{"u"}, "(+ u 2)", lv(1, 2), api.OK}, {[]string{"u"}, "(+ (max 3 u) 1)", lv(0, 4, 1, 1), api.OK}, {[]string{"u"}, "(+ 5 0)", lv(0, 5), api.OK}, {[]string{"u"}, "(+ u 1000)", lv(1, 1000), api.OK}, {[]string{"u"}, "(+ (+ u 1) 1000)", lv(), api.ErrLevel}, {nil, "(+ 999 2)", lv(), api.ErrLevel}, {nil, "(max (+ 1000 1) w)", lv(), api.ErrLevel},
		{[]string{"u"}, "(+ w u)", lv(), api.ErrShape}, {[]string{"u"}, "(+ w 1001)", lv(), api.ErrShape}, {[]string{"u"}, "(+ w 1)", lv(), api.ErrNone}, {[]string{"u"}, "(+ u)", lv(), api.ErrShape}, {[]string{"u"}, "(+ u 1 1)", lv(), api.ErrShape}, {nil, "()", lv(), api.ErrShape}, {[]string{"u"}, "(u)", lv(), api.ErrShape}, {nil, "((max))", lv(), api.ErrShape}, {nil, "(+ 1 (2))", lv(), api.ErrShape},
		{nine, "(max a b c d e f g h i)", lv(1, 0, 2, 0, 3, 0, 4, 0, 5, 0, 6, 0, 7, 0, 8, 0, 9, 0), api.OK}, {nine, "(max 1 a b c d e f g h i)", lv(), api.ErrLevel},
	} {
		l, e := script.Level(c.levels, read(t, c.text))
		if e != c.e || !same(l, c.want) {
			t.Error(c.text, l, e)
		}
	}
	both := lines.Expr{Word: "3", Kids: trees(word("max"))}
	if l, e := script.Level(nil, both); e != api.OK || !same(l, lv(0, 3)) {
		t.Error("a tree with a word", l, e)
	}
	if l, e := script.Level([]string{"u"}, listOf(word("+"), word("u"), lines.Expr{Word: "1", Kids: trees(word("x"))})); e != api.OK || !same(l, lv(1, 1)) {
		t.Error("a tree with a word", l, e)
	}
}

// natNames are names for numbers (0), lists (1), an axiom of one level (2), a definition (3).
func natNames() []script.Name {
	return []script.Name{
		{Word: "nat", Kind: api.KInd}, {Word: "zero", Kind: api.KCtor}, {Word: "succ", Kind: api.KCtor, At: 1},
		{Word: "list", Kind: api.KInd, Num: 1, Levels: 1}, {Word: "nil", Kind: api.KCtor, Num: 1, Levels: 1}, {Word: "cons", Kind: api.KCtor, Num: 1, At: 1, Levels: 1},
		{Word: "ax", Kind: api.KConst, Num: 2, Levels: 1}, {Word: "one", Kind: api.KConst, Num: 3}, {Word: "zero", Kind: api.KConst, Num: 9},
	}
}

func TestP31_1_Term(t *testing.T) {
	n, u := ind(0, 0), lv(1, 0)
	for _, c := range []struct {
		text string
		want api.Term
		e    api.Errno
	}{
		{"x", v(2), api.OK}, {"y", v(0), api.OK}, {"S", self(0), api.OK}, {"T", self(1), api.OK}, {"nat", v(1), api.OK}, {"zero", ctor(0, 0), api.OK}, {"one", con(3), api.OK}, {"succ", ctor(0, 1), api.OK}, {"ax", api.Term{}, api.ErrLevel}, {"list", api.Term{}, api.ErrLevel},
		{"what", api.Term{}, api.ErrNone}, {"12", api.Term{}, api.ErrShape}, {"pi", api.Term{}, api.ErrShape}, {"u", api.Term{}, api.ErrNone},
		{"(type u)", sort(1, 0), api.OK}, {"(type (max 1 u))", sort(0, 1, 1, 0), api.OK}, {"(type)", api.Term{}, api.ErrShape}, {"(type u u)", api.Term{}, api.ErrShape}, {"(type w)", api.Term{}, api.ErrNone}, {"(type (+ u))", api.Term{}, api.ErrShape}, {"(type (+ 999 2))", api.Term{}, api.ErrLevel},
		{"(at list u)", ind(1, 0, u), api.OK}, {"(at ax 3)", con(2, lv(0, 3)), api.OK}, {"(at nat)", n, api.OK}, {"(at list)", api.Term{}, api.ErrLevel}, {"(at list u u)", api.Term{}, api.ErrLevel}, {"(at nat u)", api.Term{}, api.ErrLevel}, {"(at what u)", api.Term{}, api.ErrNone}, {"(at what (u))", api.Term{}, api.ErrNone}, {"(at pi)", api.Term{}, api.ErrNone}, {"(at x)", api.Term{}, api.ErrNone}, {"(at)", api.Term{}, api.ErrShape}, {"(at (list) u)", api.Term{}, api.ErrShape}, {"(at nat w)", api.Term{}, api.ErrNone}, {"(at list u (u))", api.Term{}, api.ErrShape},
		{"(rec nat u)", rec(0, 0, u), api.OK}, {"(rec list u 0)", rec(1, 0, u, lv()), api.OK}, {"(rec nat)", api.Term{}, api.ErrLevel}, {"(rec list u)", api.Term{}, api.ErrLevel}, {"(rec zero u)", api.Term{}, api.ErrNone}, {"(rec ax u u)", api.Term{}, api.ErrNone}, {"(rec zero (u))", api.Term{}, api.ErrNone}, {"(rec)", api.Term{}, api.ErrShape}, {"(rec ())", api.Term{}, api.ErrShape}, {"(rec nat w)", api.Term{}, api.ErrNone},
		{"(pi (A (type 0)) A)", pi(sort(), v(0)), api.OK}, {"(pi (A (type 0)) (x A) A)", pis(sort(), v(0), v(1)), api.OK}, {"(lam (a y) (a a) (app y a))", api.Term{}, api.ErrNone}, {"(lam (a y) (a a) (y a x))", lams(v(0), v(0), app(v(2), v(0), v(4))), api.OK},
		{"(pi A)", api.Term{}, api.ErrShape}, {"(pi)", api.Term{}, api.ErrShape}, {"(pi (A y))", api.Term{}, api.ErrShape}, {"(pi A y)", api.Term{}, api.ErrShape}, {"(pi (A) y)", api.Term{}, api.ErrShape}, {"(pi (A y y) y)", api.Term{}, api.ErrShape}, {"(pi (type y) y)", api.Term{}, api.ErrShape}, {"(pi (3 y) y)", api.Term{}, api.ErrShape}, {"(pi ((A) y) y)", api.Term{}, api.ErrShape}, {"(pi (A what) (3 y) y)", api.Term{}, api.ErrNone}, {"(pi (A y) (3 y) what)", api.Term{}, api.ErrShape}, {"(lam (A y) (B y))", lam(v(0), app(api.Term{}, v(1))), api.ErrNone},
		{"(let (a y x) (a y))", let(v(0), v(2), app(v(0), v(1))), api.OK}, {"(let (a y) a)", api.Term{}, api.ErrShape}, {"(let (a y x))", api.Term{}, api.ErrShape}, {"(let a a)", api.Term{}, api.ErrShape}, {"(let (a y x) a a)", api.Term{}, api.ErrShape}, {"(let (max y x) y)", api.Term{}, api.ErrShape}, {"(let (a what 3) 3)", api.Term{}, api.ErrNone}, {"(let (a y 3) what)", api.Term{}, api.ErrShape}, {"(let (a a y) y)", api.Term{}, api.ErrNone}, {"(let (a y a) y)", api.Term{}, api.ErrNone},
		{"(succ (succ zero))", number(2), api.OK}, {"((at cons u) nat x y S)", app(ctor(1, 1, u), v(1), v(2), v(0), self(0)), api.OK}, {"(x)", api.Term{}, api.ErrShape}, {"()", api.Term{}, api.ErrShape}, {"(max x)", api.Term{}, api.ErrShape}, {"(axiom x y)", api.Term{}, api.ErrShape}, {"(3 x)", api.Term{}, api.ErrShape}, {"(what 3)", api.Term{}, api.ErrNone}, {"(x 3 what)", api.Term{}, api.ErrShape}, {"(() x)", api.Term{}, api.ErrShape}, {"((succ) x)", api.Term{}, api.ErrShape},
	} {
		x, e := script.Term(natNames(), []string{"u"}, []string{"x", "nat", "y"}, []string{"S", "T", "S", "y"}, read(t, c.text))
		if e != c.e || e == api.OK && !same(x, c.want) || e != api.OK && !same(x, api.Term{}) {
			t.Error(c.text, x, e)
		}
	}
	if x, e := script.Term(natNames(), nil, []string{"a", "b", "a"}, nil, word("a")); e != api.OK || !same(x, v(0)) {
		t.Error("the innermost one", x, e)
	}
	if x, e := script.Term(natNames(), nil, []string{"max"}, nil, word("max")); e != api.OK || !same(x, v(0)) {
		t.Error("a word for a variable", x, e)
	}
	if x, e := script.Term(natNames(), nil, nil, nil, lines.Expr{Word: "zero", Kids: trees(word("pi"))}); e != api.OK || !same(x, ctor(0, 0)) {
		t.Error("a tree with a word", x, e)
	}
}

func TestP31_1_Decl(t *testing.T) {
	u := lv(1, 0)
	for _, c := range []struct {
		text  string
		want  api.Decl
		names []script.Name
	}{
		{"(axiom a () (type 0))", axiom(0, sort()), []script.Name{{Word: "a", Kind: api.KConst, Num: 4}}},
		{"(axiom a (u w) (type (max u w)))", axiom(2, sort(1, 0, 2, 0)), []script.Name{{Word: "a", Kind: api.KConst, Num: 4, Levels: 2}}},
		{"(axiom a (u u) (type u))", axiom(2, sort(2, 0)), []script.Name{{Word: "a", Kind: api.KConst, Num: 4, Levels: 2}}},
		{"(def two () nat (succ (succ zero)))", def(0, ind(0, 0), number(2)), []script.Name{{Word: "two", Kind: api.KConst, Num: 4}}},
		{"(def id (u) (pi (A (type u)) (x A) A) (lam (A (type u)) (x A) x))", def(1, pis(sort(1, 0), v(0), v(1)), lams(sort(1, 0), v(0), v(0))), []script.Name{{Word: "id", Kind: api.KConst, Num: 4, Levels: 1}}},
		{"(block () ((A (type 0))) 0 ((L)) ((n L L) (c L (pi (x A) (l L) L))))", block(0, row(sort()), lv(), members(nil), ct(0, self(0)), ct(0, pis(v(0), self(0), self(0)))),
			[]script.Name{{Word: "L", Kind: api.KInd, Num: 4}, {Word: "n", Kind: api.KCtor, Num: 4}, {Word: "c", Kind: api.KCtor, Num: 4, At: 1}}},
		{"(block (u) ((A (type u)) (B A)) u ((E (i A) (j nat)) (O (i nat))) ((e E (E A B)) (o O (pi (k nat) (O k))) (f E (pi (k (O zero)) (E B k)))))",
			block(1, row(sort(1, 0), v(0)), u, members(row(v(1), ind(0, 0)), row(ind(0, 0))), ct(0, app(self(0), v(1), v(0))), ct(1, pi(ind(0, 0), app(self(1), v(0)))), ct(0, pi(app(self(1), ctor(0, 0)), app(self(0), v(1), v(0))))),
			[]script.Name{{Word: "E", Kind: api.KInd, Num: 4, Levels: 1}, {Word: "O", Kind: api.KInd, Num: 4, At: 1, Levels: 1}, {Word: "e", Kind: api.KCtor, Num: 4, Levels: 1}, {Word: "o", Kind: api.KCtor, Num: 4, At: 1, Levels: 1}, {Word: "f", Kind: api.KCtor, Num: 4, At: 2, Levels: 1}}},
		{"(block () () 0 () ())", block(0, nil, lv(), nil), nil},
		{"(block (n) () (+ n 1) ((n)) ())", block(1, nil, lv(1, 1), members(nil)), []script.Name{{Word: "n", Kind: api.KInd, Num: 4, Levels: 1}}},
	} {
		d, names, e := script.Decl(natNames(), 4, read(t, c.text))
		if e != api.OK {
			t.Error(c.text, e)
			continue
		}
		want(t, c.text, d, c.want)
		want(t, c.text, names, c.names)
	}
	for _, c := range []struct {
		text string
		e    api.Errno
	}{
		{"a", api.ErrShape}, {"()", api.ErrShape}, {"(lemma a () nat)", api.ErrShape}, {"((axiom) a () nat)", api.ErrShape}, {"(pi (A nat) nat)", api.ErrShape}, {"(axiom)", api.ErrShape}, {"(axiom a () nat nat)", api.ErrShape}, {"(axiom a nat)", api.ErrShape}, {"(axiom (a) () nat)", api.ErrShape}, {"(axiom a u nat)", api.ErrShape}, {"(axiom a ((u)) nat)", api.ErrShape}, {"(axiom a (u ()) nat)", api.ErrShape},
		{"(axiom pi () nat)", api.ErrArg}, {"(axiom 7 () nat)", api.ErrArg}, {"(axiom a (3) nat)", api.ErrArg}, {"(axiom a (max) nat)", api.ErrArg}, {"(axiom nat () what)", api.ErrArg}, {"(axiom zero () what)", api.ErrArg}, {"(axiom nat ((u)) what)", api.ErrShape}, {"(axiom nat (a b c d e f g h i) what)", api.ErrArg}, {"(axiom q (a b c d e f g h i) what)", api.ErrLong}, {"(axiom q (a b c d e f g h) what)", api.ErrNone}, {"(axiom q () q)", api.ErrNone}, {"(axiom q (u) u)", api.ErrNone}, {"(axiom q () (type u))", api.ErrNone},
		{"(def q () nat)", api.ErrShape}, {"(def q () what 3)", api.ErrNone}, {"(def q () 3 what)", api.ErrShape}, {"(def q () nat what)", api.ErrNone}, {"(def q () nat list)", api.ErrLevel}, {"(def one () nat zero)", api.ErrArg}, {"(def q () nat q)", api.ErrNone},
		{"(block () () 0 ())", api.ErrShape}, {"(block () () 0 () () ())", api.ErrShape}, {"(block u () 0 () ())", api.ErrShape}, {"(block () u 0 () ())", api.ErrShape}, {"(block () () 0 u ())", api.ErrShape}, {"(block () () 0 () u)", api.ErrShape}, {"(block () () 0 (M) ())", api.ErrShape}, {"(block () () 0 (()) ())", api.ErrShape}, {"(block () () 0 (((M))) ())", api.ErrShape}, {"(block () () 0 ((M)) (C))", api.ErrShape}, {"(block () () 0 ((M)) ((C M)))", api.ErrShape}, {"(block () () 0 ((M)) ((C M M M)))", api.ErrShape}, {"(block () () 0 ((M)) (((C) M M)))", api.ErrShape}, {"(block () () 0 ((M)) ((C (M) M)))", api.ErrShape},
		{"(block (3) () 0 ((M)) ((C (M) M)))", api.ErrShape}, {"(block () ((A)) what ((nat)) ())", api.ErrShape}, {"(block () ((A)) what ((M)) ())", api.ErrShape}, {"(block () ((A what)) 07 ((M)) ())", api.ErrNone}, {"(block () ((A what) (B)) 07 ((M)) ())", api.ErrShape}, {"(block () () 07 ((M (3 nat))) ())", api.ErrShape}, {"(block () () w ((M (3 nat))) ())", api.ErrShape}, {"(block () () 07 ((M (i what))) ())", api.ErrShape}, {"(block () () w ((M (i 3))) ())", api.ErrNone}, {"(block () () 0 ((M (i nat) (3 nat))) ((C D E)))", api.ErrShape}, {"(block () () 0 ((M (i what))) ((C D (E))))", api.ErrNone},
		{"(block () () 0 ((pi)) ())", api.ErrArg}, {"(block () () 0 ((M) (M)) ())", api.ErrArg}, {"(block () () 0 ((M)) ((M M M)))", api.ErrArg}, {"(block () () 0 ((M)) ((C M M) (C M M)))", api.ErrArg}, {"(block () () 0 ((M)) ((zero M M)))", api.ErrArg}, {"(block () () 0 ((M)) ((7 M M)))", api.ErrArg}, {"(block (0) () 0 ((M)) ())", api.ErrArg}, {"(block (a b c d e f g h i) () w ((M)) ())", api.ErrLong}, {"(block (a b c d e f g h i) () w ((M) (M)) ())", api.ErrArg},
		{"(block () () 0 ((M)) ((C D M)))", api.ErrNone}, {"(block () () 0 ((M)) ((C nat M)))", api.ErrNone}, {"(block () () 0 ((M)) ((C M 3) (D E M)))", api.ErrShape}, {"(block () () 0 ((M)) ((C M M) (D E 3)))", api.ErrNone}, {"(block () ((A M)) 0 ((M)) ())", api.ErrNone}, {"(block () () 0 ((M (i M))) ())", api.ErrNone}, {"(block () () 0 ((M (i nat))) ((C M i)))", api.ErrNone}, {"(block () () 0 ((M)) ((C M C)))", api.ErrNone},
	} {
		d, names, e := script.Decl(natNames(), 4, read(t, c.text))
		if e != c.e || !same(d, api.Decl{}) || names != nil {
			t.Error(c.text, e)
		}
	}
}

// TestP31_1_BlockShapes: the shapes of all lists of a block, its binders' too, come ahead of its words, of how many these are, and of what its trees tell.
func TestP31_1_BlockShapes(t *testing.T) {
	nine := "(a b c d e f g h i)"
	for _, b := range []string{"A", "3", "()", "(A)", "(A nat nat)", "(3 nat)", "(07 nat)", "(pi nat)", "((A) nat)", "((A nat))", "(() nat)"} {
		for _, text := range []string{
			"(block () (" + b + ") 0 ((M)) ())", "(block () ((A nat) " + b + ") 0 ((M)) ())", "(block () ((A what) " + b + ") w ((M)) ())",
			"(block () (" + b + ") 0 ((nat)) ())", "(block () (" + b + ") 0 ((M) (M)) ())", "(block () (" + b + ") 0 ((pi)) ())", "(block () (" + b + ") 0 ((M)) ((zero M M)))", "(block (7) (" + b + ") 0 ((M)) ())", "(block " + nine + " (" + b + ") 0 ((M)) ())",
			"(block () () 0 ((M " + b + ")) ())", "(block () () 0 ((M) (N (i nat) " + b + ")) ())", "(block () ((A what)) w ((M " + b + ")) ())", "(block () () 0 ((M (i what)) (N " + b + ")) ())",
			"(block () () 0 ((nat " + b + ")) ())", "(block () () 0 ((M " + b + ") (M)) ())", "(block () () 0 ((M) (M " + b + ")) ())", "(block () () 0 ((M " + b + ")) ((C M M) (C M M)))", "(block (max) () 0 ((M " + b + ")) ())", "(block " + nine + " () 0 ((M " + b + ")) ())",
		} {
			d, names, e := script.Decl(natNames(), 4, read(t, text))
			if e != api.ErrShape || !same(d, api.Decl{}) || names != nil {
				t.Error(text, e)
			}
		}
	}
	for text, e := range map[string]api.Errno{
		"(block () ((A 3)) 07 ((nat (i ()))) ((C D ())))": api.ErrArg, "(block " + nine + " ((A 3)) 07 ((M (i ()))) ((C D ())))": api.ErrLong, "(block () ((A what)) 07 ((M (i ()))) ((C D ())))": api.ErrNone, "(block () ((A nat) (B (pi (3 A) A))) w ((M)) ())": api.ErrShape, "(block () ((A nat)) w ((M (i ()))) ())": api.ErrNone, "(block () ((A nat) (nat nat)) 0 ((M (A nat) (A nat))) ())": api.OK,
	} {
		if _, _, got := script.Decl(natNames(), 4, read(t, text)); got != e {
			t.Error(text, got)
		}
	}
	kids := lines.Expr{Word: "A", Kids: trees(word("B"), word("nat"))}
	whole := read(t, "(block () () 0 ((nat)) ())")
	whole.Kids[2].Kids = trees(kids)
	if _, _, e := script.Decl(natNames(), 4, whole); e != api.ErrShape {
		t.Error("a binder with a word is that word", e)
	}
	whole = read(t, "(block () (((A) nat)) 0 ((M)) ())")
	whole.Kids[2].Kids[0].Kids[0] = kids
	if _, _, e := script.Decl(natNames(), 4, whole); e != api.OK {
		t.Error("a binder's word with kids is that word", e)
	}
}

func TestP31_2(t *testing.T) {
	u := lv(1, 0)
	names := append(natNames(), script.Name{Word: "natural", Kind: api.KInd}, script.Name{Word: "max", Kind: api.KConst, Num: 7})
	for i, c := range []struct {
		x    api.Term
		want string
	}{
		{sort(), "(type 0)"}, {sort(0, 0), "(type 0)"}, {sort(0, 4), "(type 4)"}, {sort(1, 0), "(type u)"}, {sort(2, 3), "(type (+ w 3))"}, {sort(0, 4, 1, 0, 2, 3), "(type (max 4 u (+ w 3)))"}, {sort(0, 2, 1, 2), "(type (+ u 2))"}, {sort(3, 0), ""}, {sort(0, 1000), "(type 1000)"}, {sort(0, 1001), ""}, {api.Term{Kind: api.KSort}, ""},
		{ind(0, 0), "nat"}, {ctor(0, 1), "succ"}, {con(3), "one"}, {con(2, u), "(at ax u)"}, {con(2), ""}, {con(3, u), ""}, {ind(1, 0, lv(0, 3)), "(at list 3)"}, {ind(1, 0), ""}, {ctor(0, 0), "zero"}, {con(9), ""}, {con(8), ""}, {ind(0, 1), ""}, {con(7), "max"}, {app(con(7), con(3)), ""},
		{rec(0, 0, u), "(rec nat u)"}, {rec(1, 0, u, lv(2, 1)), "(rec list u (+ w 1))"}, {rec(0, 0), ""}, {rec(1, 0, u), ""}, {rec(2, 0, u), ""},
		{pi(ind(0, 0), v(0)), "(pi (?0 nat) ?0)"}, {pis(sort(), v(0), v(1)), "(pi (?0 (type 0)) (pi (?1 ?0) ?0))"}, {lam(sort(), let(v(0), v(0), app(v(1), v(0)))), "(lam (?0 (type 0)) (let (?1 ?0 ?0) (?0 ?1)))"}, {number(2), "(succ (succ zero))"}, {app(con(3), con(3), con(3)), "(one one one)"}, {app(lam(sort(), v(0)), ind(0, 0)), "((lam (?0 (type 0)) ?0) nat)"},
		{v(0), ""}, {lam(sort(), v(1)), ""}, {lam(sort(), v(-1)), ""}, {self(0), ""}, {fin(2), ""}, {refl(), ""}, {api.Term{}, ""}, {node(api.KApp, con(3)), ""}, {node(api.KApp, con(3), con(3), con(3)), ""}, {node(api.KPi, con(3)), ""}, {node(api.KLet, con(3), con(3)), ""}, {pi(con(3), fin(2)), ""}, {api.Term{Kind: api.KConst, Num: 3, Kids: row(v(0))}, ""},
	} {
		x, ok := script.Show(names, []string{"u", "w"}, c.x)
		if ok != (c.want != "") || !ok && !same(x, lines.Expr{}) {
			t.Error(i, ok)
			continue
		}
		if text, _ := lines.Write(x); ok && text != c.want {
			t.Error(i, text)
		}
	}
	if _, ok := script.Show([]script.Name{{Word: "?0", Kind: api.KInd}}, nil, pi(ind(0, 0), ind(0, 0))); ok {
		t.Error("a name that is a variable's word")
	}
	if x, ok := script.Show([]script.Name{{Word: "?0", Kind: api.KInd}}, nil, pi(ind(0, 0), v(0))); !ok || x.Kids[0].Word != "pi" {
		t.Error("a name that is a variable's word elsewhere")
	}
	if _, ok := script.Show(nil, []string{"u", "u"}, sort(1, 0)); ok {
		t.Error("a level variable that is hidden")
	}
	if _, ok := script.Show(nil, []string{"3"}, sort(1, 0)); ok {
		t.Error("a level variable that is a number")
	}
}

func TestP31_3(t *testing.T) {
	r := chance(31)
	names := append(natNames()[:8], script.Name{Word: "vec", Kind: api.KInd, Num: 4, Levels: 1})
	shown := 0
	for range 3000 {
		x := sourceTerm(r, 6, 0)
		tree, ok := script.Show(names, []string{"u", "w"}, x)
		if !ok {
			if !holdsOwn(x) {
				t.Fatal("not shown", x)
			}
			continue
		}
		shown++
		back, e := script.Term(names, []string{"u", "w"}, nil, nil, tree)
		if e != api.OK || !term.Same(back, x) {
			t.Fatal("told again", x, e)
		}
		text, e := lines.Write(tree)
		want(t, "written", e, api.OK)
		want(t, "read", read(t, text), tree)
	}
	if shown < 500 {
		t.Error("too few were shown", shown)
	}
	var known []script.Name
	for num, text := range strings.Split("(axiom a () (type 0))|(block (u) () u ((M) (N)) ((c M M)))|(def d () a a)|(axiom c () a)|(axiom e () (at M 0))", "|") {
		_, names, e := script.Decl(known, num, read(t, text))
		want(t, text, e, map[bool]api.Errno{true: api.ErrArg, false: api.OK}[num == 3])
		for _, n := range names {
			want(t, "num", n.Num, num)
			for _, k := range known {
				if k.Word == n.Word {
					t.Error("two names are one", n)
				}
			}
		}
		known = append(known, names...)
	}
}
