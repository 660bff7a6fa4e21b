package tests

import (
	"strconv"
	"strings"
	"testing"

	"spandrel/api"
	"spandrel/desk"
	"spandrel/script"
	"spandrel/session"
	"spandrel/term"
)

// natScript are numbers and their sum; listScript lists; roseScript roses.
const (
	natScript = `(fuel 100000000)
(block () () 0 ((nat)) ((zero nat nat) (succ nat (pi (n nat) nat))))
(def add () (pi (a nat) (b nat) nat) (lam (a nat) (b nat) ((rec nat 0) (lam (x nat) nat) b (lam (x nat) (r nat) (succ r)) a)))
`
	listScript = "(block (u) ((A (type u))) u ((list)) ((nil list list) (cons list (pi (x A) (l list) list))))\n"
	roseScript = "(block () () 0 ((rose)) ((node rose (pi (kids ((at list 0) rose)) rose))))\n"
)

// told are the lines of a script.
func toldBy(text string) []string {
	return strings.Split(strings.TrimSuffix(desk.Run(text), "\n"), "\n")
}

func TestP32_1(t *testing.T) {
	const axioms = "(axiom nat () (type 0)) (axiom zero () nat) (axiom succ () (pi (n nat) nat)) (judge () (succ zero))"
	l := toldBy(axioms + " (stat)")
	want(t, "axioms", l[:4], []string{"ok nat", "ok zero", "ok succ", "nat"})
	if !strings.HasPrefix(l[4], "stat 3 3 4 0 ") {
		t.Error(l[4])
	}
	two := "(succ (succ zero))"
	for i, c := range []struct{ text, want string }{
		{"", ""}, {" ; nothing\n", ""}, {"(", "wrong 4 0\n"}, {"(stat))", "wrong 4 0\n"}, {strings.Repeat("(", 401), "wrong 3 0\n"}, {strings.Repeat(" ", api.MaxScript+1), "wrong 3 0\n"},
		{"(stat)", "stat 0 0 0 0 0\n"}, {"stat", "wrong 40 1\n"}, {"()", "wrong 40 1\n"}, {"((stat))", "wrong 40 1\n"}, {"(what)", "wrong 40 1\n"}, {"(stat) x (stat)", "stat 0 0 0 0 0\nwrong 40 2\nstat 0 0 0 0 0\n"}, {"(stat 1)", "wrong 40 1\n"}, {"(stat ())", "wrong 40 1\n"},
		{"(axiom)", "wrong 4 1\n"}, {"(axiom a () b)", "wrong 18 1\n"}, {"(axiom 3 () b)", "wrong 2 1\n"}, {"(axiom a (a b c d e f g h i) b)", "wrong 3 1\n"}, {"(axiom a (a b c d e f g h) (type 0)) (stat)", "wrong 4 1\nstat 0 0 1 1 1048576\n"}, {"(def a () (type 0) (type 0))", "wrong 13 1\n"},
		{"(axiom a () (type 0)) (axiom a () (type 0))", "ok a\nwrong 2 2\n"}, {"(block () () 0 ((a)) ((b a (pi (x (pi (y a) (type 0))) a))))", "wrong 16 1\n"},
		{"(judge)", "wrong 40 1\n"}, {"(judge ())", "wrong 40 1\n"}, {"(judge () (type 0) (type 0))", "wrong 40 1\n"}, {"(judge u (type 0))", "wrong 40 1\n"}, {"(judge (u u) (type 0))", "wrong 40 1\n"}, {"(judge (3) (type 0))", "wrong 40 1\n"}, {"(judge (pi) (type 0))", "wrong 40 1\n"}, {"(judge (()) (type 0))", "wrong 40 1\n"}, {"(judge (a b c d e f g h i) (type 0))", "wrong 40 1\n"},
		{"(judge (a b c d e f g h) (type (max a h)))", "(type (max (+ a 1) (+ h 1)))\n"}, {"(judge (u) (type u))", "(type (+ u 1))\n"}, {"(judge () (type u))", "wrong 18 1\n"}, {"(judge () 3)", "wrong 4 1\n"}, {"(judge () (type 1000))", "wrong 15 1\n"}, {"(judge () ((type 0) (type 0)))", "wrong 8 1\n"}, {"(judge () (lam (x (type 0)) x))", "(pi (?0 (type 0)) (type 0))\n"}, {"(judge (max) (type 0))", "wrong 40 1\n"},
		{"(head () ((lam (x (type 1)) x) (type 0)))", "(type 0)\n"}, {"(head ())", "wrong 40 1\n"}, {"(head (u) what)", "wrong 18 1\n"}, {"(same () (type 0) (type (max 0)))", "one\n"}, {"(same () (type 0) (type 1))", "other\n"}, {"(same () (type 0))", "wrong 40 1\n"}, {"(same (u u) 3 4)", "wrong 40 1\n"}, {"(same () what 3)", "wrong 18 1\n"}, {"(same () 3 what)", "wrong 4 1\n"}, {"(same () (type 0) what)", "wrong 18 1\n"},
		{"(norm () (lam (x (type 0)) x))", "norm 3\n"}, {"(norm () what)", "wrong 18 1\n"}, {"(norm (u))", "wrong 40 1\n"}, {"(core)", "wrong 40 1\n"}, {"(core a b)", "wrong 40 1\n"}, {"(core (a))", "wrong 40 1\n"}, {"(core a)", "wrong 18 1\n"}, {"(core 3)", "wrong 18 1\n"},
		{"(fuel)", "wrong 40 1\n"}, {"(fuel 1 2)", "wrong 40 1\n"}, {"(fuel x)", "wrong 40 1\n"}, {"(fuel 07)", "wrong 40 1\n"}, {"(fuel -1)", "wrong 40 1\n"}, {"(fuel +1)", "wrong 40 1\n"}, {"(fuel 1073741824)", "ok\n"}, {"(fuel 1073741825)", "wrong 40 1\n"}, {"(fuel 99999999999999999999)", "wrong 40 1\n"}, {"(fuel 0)", "ok\n"}, {"(fuel ())", "wrong 40 1\n"},
		{"(fuel 2) (axiom a () (type 0)) (stat) (fuel x) (stat) (fuel 2) (stat) (core a)", "ok\nok a\nstat 1 1 1 0 2\nwrong 40 4\nstat 1 1 1 0 2\nok\nstat 0 0 0 0 0\nwrong 18 8\n"},
		{"(fuel 1) (axiom a () (type 0)) (core a) (stat)", "ok\nwrong 5 2\nwrong 18 3\nstat 0 0 1 1 1\n"},
		{natScript + "(judge () (add zero)) (same () (add " + two + " zero) " + two + ") (same () zero " + two + ") (head () (add zero zero))", "ok\nok nat zero succ\nok add\n(pi (?0 nat) nat)\none\nother\nzero\n"},
		{natScript + listScript + roseScript + "(core nat) (core succ) (core add) (core cons) (core node) (judge (u) (at nil u)) (judge () (at list 0)) (head () ((at list 0) rose))",
			"ok\nok nat zero succ\nok add\nok list nil cons\nok rose node\ncore 0 12\ncore 0 12\ncore 12 1\ncore 13 12\ncore 25 16\n(pi (?0 (type u)) ((at list u) ?0))\n(pi (?0 (type 0)) (type 0))\n((at list 0) rose)\n"},
		{natScript + listScript + roseScript + "(judge () (rec rose 0)) (judge () node) (judge () (node ((at nil 0) rose))) (stat)", "ok\nok nat zero succ\nok add\nok list nil cons\nok rose node\nshape\nshape\nwrong 13 8\n"},
	} {
		got := desk.Run(c.text)
		if strings.HasPrefix(c.text, natScript+listScript) && strings.HasSuffix(c.text, "(stat)") {
			got = got[:strings.LastIndex(got, "stat")]
		}
		if got != c.want {
			t.Errorf("%d %.200s: %s", i, c.text, got)
		}
	}
}

// TestP32_1_Same holds what the desk tells of a normal form and of counts against the session.
func TestP32_1_Same(t *testing.T) {
	s := opened(t, 100000000, nat(), def(0, pis(ind(0, 0), ind(0, 0), ind(0, 0)), lams(ind(0, 0), ind(0, 0), plus(v(1), v(0)))))
	x := app(con(1), number(1), number(2))
	y, _ := s.Norm(0, x)
	l := toldBy(natScript + "(norm () (add (succ zero) (succ (succ zero)))) (stat) (judge () what) (norm () (type u)) (stat)")
	want(t, "norm", l[3], "norm "+strconv.Itoa(term.Size(y)))
	stat := func(s session.Stat) string {
		out := "stat"
		for _, n := range []int{s.Decls, s.Core, s.Calls, s.Failed, s.Spent} {
			out += " " + strconv.Itoa(n)
		}
		return out
	}
	want(t, "stat", l[4], stat(s.Stat()))
	want(t, "no call of the session", l[7], l[4])
	rich := natScript + "(judge () (lam (f (pi (n nat) nat)) " + strings.Repeat("(f ", 390) + "zero" + strings.Repeat(")", 390) + "))"
	want(t, "deep", toldBy(rich)[3], "(pi (?0 (pi (?0 nat) nat)) nat)")
	deep := natScript + "(head () (lam (f (pi (n nat) nat)) " + strings.Repeat("(f ", 398) + "zero" + strings.Repeat(")", 398) + "))"
	want(t, "too deep a script", desk.Run(deep), "wrong 3 0\n")
	if _, ok := script.Show(nil, nil, con(0)); ok {
		t.Error("a name of nothing is shown")
	}
}

func TestP32_2(t *testing.T) {
	trees := []string{"(axiom a () (type 0))", "(axiom b (u) a)", "(judge () (at b 0))", "what", "(core b)", "(same () a a)", "(axiom a () a)", "(head (u) (at b u))", "(stat)", "(fuel 500)", "(stat)", "(axiom a () (type 0))", "(axiom b () a)", "(judge () b)", "(core b)"}
	whole := toldBy(strings.Join(trees, " "))
	want(t, "a line each", len(whole), len(trees))
	for n := range len(trees) {
		if n > 0 {
			want(t, "a beginning", toldBy(strings.Join(trees[:n], "\n")), whole[:n])
		}
	}
	less := toldBy("(axiom a () (type 0)) (axiom b (u) a) (judge () (at b 0))")
	more := toldBy("(axiom a () (type 0)) (stat) (core a) (same () a a) (axiom b (u) a) (norm () a) (judge () (at b 0))")
	want(t, "what tells of terms", []string{more[0], more[4], more[6]}, less)
	want(t, "told again", toldBy(natScript + "(def add () nat zero)")[3], "wrong 2 4")
	want(t, "the same each time", desk.Run(natScript+listScript+"(stat)"), desk.Run(natScript+listScript+"(stat)"))
}
