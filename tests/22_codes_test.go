package tests

import (
	"testing"

	"spandrel/api"
	"spandrel/cenv"
	"spandrel/codes"
)

func TestP22_1(t *testing.T) {
	a, b, c := v(5), v(6), v(7)
	want(t, "Tup", codes.Tup(nil), fin(1))
	want(t, "Tup", codes.Tup(row(a)), a)
	want(t, "Tup", codes.Tup(row(a, b, c)), sigma(a, sigma(b, c)))
	want(t, "Pack", codes.Pack(nil), elem(0, 1))
	want(t, "Pack", codes.Pack(row(a)), a)
	want(t, "Pack", codes.Pack(row(a, b, c)), pair(a, pair(b, c)))
	want(t, "Parts", codes.Parts(a, -1), row())
	want(t, "Parts", codes.Parts(a, 0), row())
	want(t, "Parts", codes.Parts(a, 1), row(a))
	want(t, "Parts", codes.Parts(a, 3), row(fst(a), fst(snd(a)), snd(snd(a))))
	want(t, "Case", codes.Case(a, row(b, c), v(1)), cas(a, v(1), b, c))
	want(t, "Case", codes.Case(a, nil, v(1)), cas(a, v(1)))
	own := []api.Level{lv(1, 0), lv(2, 0)}
	trees := blocks()[4]
	want(t, "Const", codes.Const(trees, 9, 3), app(con(9, own...), v(4), v(3)))
	want(t, "Const", codes.Const(nat(), 9, 3), con(9))
	want(t, "IndexType", codes.IndexType(trees, 9, 3), sigma(fin(1), app(con(9, own...), v(5), v(4), v(0))))
	want(t, "Shape", codes.Shape(trees, 9, 3), sigma(fin(1), app(con(10, own...), v(5), v(4), v(0))))
	want(t, "Shape", codes.Shape(nat(), 9, 3), sigma(fin(2), app(con(10), v(0))))
	args := row(app(a, sort(1, 1)), app(b, sort(1, 2)))
	apart(t, "Tup", args, codes.Tup(args))
	apart(t, "Pack", args, codes.Pack(args))
	apart(t, "Case", args, codes.Case(args[0], args, args[1]))
	apart(t, "Parts", args, codes.Parts(args[0], 3)...)
}

// mixed is a rule below one param, with plain arguments and recursive ones by turns.
func mixed() api.Rule {
	n := con(50)
	return api.Rule{Member: 1, Index: row(v(1), v(4)), Args: []api.Arg{
		plain(n),
		recursive(0, row(app(n, v(0)), app(n, v(1), v(0))), v(2), v(3), v(0)),
		plain(app(n, v(1), v(2))),
		recursive(1, nil, app(v(0), v(2), v(3))),
	}}
}

func TestP22_2(t *testing.T) {
	r, n, none := mixed(), con(50), elem(0, 1)
	want(t, "Types", codes.Types(r), row(n, app(n, v(0), v(1))))
	want(t, "Types", codes.Types(api.Rule{}), row())
	want(t, "Recs", codes.Recs(r), []int{1, 3})
	want(t, "Recs", codes.Recs(api.Rule{}), []int(nil))
	a, b := app(v(9), v(2)), v(11)
	up := app(v(11), v(4))
	want(t, "Tele", codes.Tele(r, 1, row(a, b), 5), row(app(n, a), app(n, app(v(10), v(3)), v(0))))
	want(t, "Index", codes.Index(r, 1, row(a, b), 5), row(up, v(7), v(0)))
	want(t, "Tele", codes.Tele(r, 3, row(a, b), 5), row())
	want(t, "Index", codes.Index(r, 3, row(a, b), 5), row(app(b, a, v(5))))
	want(t, "End", codes.End(r, row(a, b), 5), row(b, v(5)))
	want(t, "no values", codes.Tele(r, 1, nil, 5), row(app(n, none), app(n, none, v(0))))
	want(t, "no values", codes.Index(r, 3, row(a), 5), row(app(none, a, v(5))))
	want(t, "no values", codes.End(r, nil, 0), row(none, v(0)))
	want(t, "a recursive argument's variable", codes.End(api.Rule{Args: r.Args, Index: row(v(0), v(2))}, row(a, b), 5), row(none, none))
	for _, i := range []int{-1, 0, 2, 4, 99} {
		want(t, "no recursive argument", codes.Tele(r, i, row(a, b), 5), row())
		want(t, "no recursive argument", codes.Index(r, i, row(a, b), 5), row())
	}
	want(t, "the rule", r, mixed())
}

func TestP22_3(t *testing.T) {
	l := codes.Codes(nat(), readRules(nat()), 0)
	shape := sigma(fin(2), app(con(1), v(0)))
	natCodes := []api.Core{
		{Type: pi(fin(1), sort()), Has: true, Body: lam(fin(1), cas(lam(fin(1), sort()), v(0), fin(1)))},
		{Type: pi(fin(2), sort()), Has: true, Body: lam(fin(2), cas(lam(fin(2), sort()), v(0), fin(1), fin(1)))},
		{Type: pi(shape, sort()), Has: true, Body: lam(shape, app(cas(lam(fin(2), pi(app(con(1), v(0)), sort())), fst(v(0)),
			lam(app(con(1), elem(0, 2)), fin(0)),
			lam(app(con(1), elem(1, 2)), sigma(fin(1), cas(lam(fin(1), sort()), v(0), fin(1))))), snd(v(0))))},
		{Type: sort(), Has: true, Body: tree(shape, app(con(2), v(0)))},
	}
	want(t, "numbers", l, natCodes)
	trees := blocks()[4]
	u := []api.Level{lv(1, 0), lv(2, 0)}
	s := sort(1, 0, 2, 0)
	par := func(x ...api.Term) api.Term {
		return pis(append([]api.Term{sort(1, 0), pi(v(0), sort(2, 0))}, x...)...)
	}
	fun := func(x ...api.Term) api.Term {
		return lams(append([]api.Term{sort(1, 0), pi(v(0), sort(2, 0))}, x...)...)
	}
	at := func(num, far int, x ...api.Term) api.Term { return app(app(con(num, u...), v(far+1), v(far)), x...) }
	shape = sigma(fin(1), at(8, 1, v(0)))
	l = codes.Codes(trees, readRules(trees), 7)
	want(t, "trees", l, []api.Core{
		{Levels: 2, Type: par(fin(1), s), Has: true, Body: fun(fin(1), cas(lam(fin(1), s), v(0), fin(1)))},
		{Levels: 2, Type: par(fin(1), s), Has: true, Body: fun(fin(1), cas(lam(fin(1), s), v(0), v(2)))},
		{Levels: 2, Type: par(shape, s), Has: true, Body: fun(shape, app(cas(lam(fin(1), pi(at(8, 2, v(0)), s)), fst(v(0)),
			lam(at(8, 1, elem(0, 1)), sigma(fin(1), cas(lam(fin(1), s), v(0), app(v(3), v(1)))))), snd(v(0))))},
		{Levels: 2, Type: par(s), Has: true, Body: fun(tree(shape, at(9, 1, v(0))))},
	})
	for i, c := range [][]api.Core{
		codes.Codes(nat(), nil, 0), codes.Codes(nat(), readRules(nat())[:1], 0), codes.Codes(axiom(0, sort()), nil, 0), codes.Codes(api.Decl{}, nil, 0), codes.Codes(nat(), make([]api.Rule, 3), 0),
	} {
		if len(c) != 0 {
			t.Error("none", i)
		}
	}
	if l := codes.Codes(nat(), make([]api.Rule, 2), -5); len(l) != 4 {
		t.Error("rules that are none of its own")
	}
	for i, d := range blocks() {
		l := codes.Codes(d, readRules(d), 3)
		if len(l) != 4 {
			t.Fatal("four codes", i)
		}
		for _, c := range l {
			if c.Levels != d.Levels || !c.Has {
				t.Error("levels and bodies", i)
			}
			apart(t, "Codes", d.Params, c.Type, c.Body)
		}
		want(t, "the block", d, blocks()[i])
	}
}

// alone are the blocks that name no other declaration.
func alone() []api.Decl {
	b := blocks()
	return []api.Decl{b[0], b[1], b[4], b[5], b[6], b[8], b[10]}
}

func TestP22_4(t *testing.T) {
	for i, d := range alone() {
		if _, at, e := cenv.All(codes.Codes(d, readRules(d), 0), 100000); e != api.OK {
			t.Error("codes that do not check", i, at, e)
		}
	}
}
