package tests

import (
	"testing"

	"spandrel/api"
	"spandrel/cenv"
	"spandrel/codes"
	"spandrel/former"
	"spandrel/good"
	"spandrel/infer"
)

func TestP24_1(t *testing.T) {
	d := block(0, nil, lv(), members(nil, nil), make([]api.Ctor, 3)...)
	u := lv(1, 2)
	for i, c := range []struct{ x, want api.Term }{
		{ind(0, 0), con(15)}, {ind(0, 1, u), con(16, u)}, {ctor(0, 2), con(19)}, {ctor(0, 0, u), con(17, u)}, {rec(0, 0), con(21)}, {rec(0, 1, u, u), con(22, u, u)},
		{ind(0, 2), ind(0, 2)}, {ind(0, -1), ind(0, -1)}, {ctor(0, 3), ctor(0, 3)}, {rec(0, 2), rec(0, 2)}, {ind(1, 0), ind(1, 0)}, {ctor(-1, 0), ctor(-1, 0)}, {rec(3, 0), rec(3, 0)}, {con(0), con(0)}, {self(0), self(0)}, {fin(0), fin(0)},
		{lam(ind(0, 0), app(rec(0, 1), v(0))), lam(con(15), app(con(22), v(0)))},
	} {
		if got := former.Named(d, 10, c.x); !same(got, c.want) {
			t.Error(i, got)
		}
	}
	want(t, "no block", former.Named(api.Decl{}, 10, ind(0, 0)), ind(0, 0))
	x := app(ind(0, 0, u), ctor(0, 0, u))
	apart(t, "Named", row(x), former.Named(d, 10, x))
}

func TestP24_2(t *testing.T) {
	l := former.Form(nat(), readRules(nat()), 0)
	at := pair(elem(0, 1), elem(0, 1))
	n := con(5)
	none := lam(app(con(2), pair(elem(0, 2), v(0))), cas(lam(fin(0), con(3)), v(0)))
	table := lam(app(con(2), pair(elem(1, 2), v(1))), app(cas(lam(fin(1), pi(cas(lam(fin(1), sort()), v(0), fin(1)), con(3))), fst(v(0)), lam(fin(1), v(2))), snd(v(0))))
	want(t, "numbers", l, []api.Core{
		{Type: sort(), Has: true, Body: sigma(con(3), app(con(4), v(0), at))},
		{Type: n, Has: true, Body: pair(sup(pair(elem(0, 2), elem(0, 1)), app(lam(app(con(1), elem(0, 2)), none), elem(0, 1))), pair(refl(), refl()))},
		{Type: pi(n, n), Has: true, Body: lam(n, pair(
			sup(pair(elem(1, 2), elem(0, 1)), app(lams(app(con(1), elem(1, 2)), con(3), table), elem(0, 1), fst(v(0)))),
			pair(fst(v(0)), pair(refl(), pair(refl(), snd(v(0)))))))},
	})
	trees := blocks()[4]
	u := []api.Level{lv(1, 0), lv(2, 0)}
	l = former.Form(trees, readRules(trees), 7)
	cons := func(num, far int, x ...api.Term) api.Term { return app(app(con(num, u...), v(far+1), v(far)), x...) }
	want(t, "trees", l[0].Body, lams(sort(1, 0), pi(v(0), sort(2, 0)), sigma(cons(10, 0), cons(11, 1, v(0), pair(elem(0, 1), elem(0, 1))))))
	want(t, "trees", l[1].Type, pis(sort(1, 0), pi(v(0), sort(2, 0)), v(1), pi(app(v(1), v(0)), cons(12, 2)), cons(12, 2)))
	half := func(k api.TermKind) api.Term { return lam(app(v(2), v(1)), node(k, app(v(1), v(0)))) }
	r := readRules(trees)[0]
	f := app(lams(cons(8, 2, elem(0, 1)), good.Row(trees, r, 7, v(0), 3), good.Table(trees, r, 7, 0, v(1), v(0), 4)), v(1), half(api.KFst))
	want(t, "trees", l[1].Body, lams(sort(1, 0), pi(v(0), sort(2, 0)), v(1), pi(app(v(1), v(0)), cons(12, 2)),
		pair(sup(pair(elem(0, 1), v(1)), f), pair(half(api.KFst), pair(refl(), pair(refl(), half(api.KSnd)))))))
	broken := func(change func(d *api.Decl)) []api.Core {
		d := nat()
		change(&d)
		return former.Form(d, readRules(nat()), 0)
	}
	for i, c := range [][]api.Core{
		former.Form(nat(), nil, 0), former.Form(nat(), readRules(nat())[:1], 0), former.Form(nat(), make([]api.Rule, 3), 0), former.Form(axiom(0, sort()), nil, 0), former.Form(api.Decl{}, nil, 0),
		broken(func(d *api.Decl) { d.Levels = -1 }), broken(func(d *api.Decl) { d.Levels = 101 }), broken(func(d *api.Decl) { d.Ctors[1].Type = self(0) }), broken(func(d *api.Decl) { d.Members = nil }),
	} {
		if len(c) != 0 {
			t.Error("none", i)
		}
	}
	if l := broken(func(d *api.Decl) { d.Levels = 100 }); len(l) != 3 || l[0].Levels != 100 {
		t.Error("100 levels")
	}
	for i, d := range blocks() {
		l := former.Form(d, readRules(d), 3)
		if len(l) != len(d.Members)+len(d.Ctors) {
			t.Fatal("formers and constructors", i)
		}
		for _, c := range l {
			if c.Levels != d.Levels || !c.Has || holdsOwn(c.Type) || holdsOwn(c.Body) {
				t.Error("levels, bodies, names", i)
			}
			apart(t, "Form", d.Params, c.Type, c.Body)
		}
		want(t, "the block", d, blocks()[i])
	}
}

// holdsOwn says whether a KSelf stands in a term.
func holdsOwn(t api.Term) bool {
	for _, kid := range t.Kids {
		if holdsOwn(kid) {
			return true
		}
	}
	return t.Kind == api.KSelf
}

// formed are the codes, the goodness, the formers and constructors of a block that names no other one.
func formed(d api.Decl) []api.Core {
	rules := readRules(d)
	l := append(codes.Codes(d, rules, 0), good.Good(d, rules, 0)...)
	return append(l, former.Form(d, rules, 0)...)
}

func TestP24_3(t *testing.T) {
	for i, d := range alone() {
		if _, at, e := cenv.All(formed(d), 10000000); e != api.OK {
			t.Error("does not check", i, at, e)
		}
	}
	l := formed(nat())
	three := app(con(7), app(con(7), app(con(7), con(6))))
	if _, e := infer.Check(l, 0, nil, three, con(5), 100000); e != api.OK {
		t.Error("three", e)
	}
}
