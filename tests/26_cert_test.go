package tests

import (
	"testing"

	"spandrel/api"
	"spandrel/cenv"
	"spandrel/cert"
)

func TestP26_1(t *testing.T) {
	n, u := con(5), lv(1, 0)
	below := func(l ...api.Term) []api.Term {
		return append(row(pi(n, sort(1, 0)), app(v(0), con(6)), pis(n, app(v(2), v(0)), app(v(3), app(con(7), v(1))))), l...)
	}
	rec := func(l ...api.Term) api.Term { return app(con(9, u), l...) }
	succ := func(x api.Term) api.Term { return app(con(7), x) }
	want(t, "numbers", cert.Cert(nat(), readRules(nat()), 0), []api.Core{
		{Levels: 1, Type: pis(below(idOf(app(v(2), con(6)), rec(v(2), v(1), v(0), con(6)), v(1)))...), Has: true, Body: lams(below(refl())...)},
		{Levels: 1, Type: pis(below(n, idOf(app(v(3), succ(v(0))), rec(v(3), v(2), v(1), succ(v(0))), app(v(1), v(0), rec(v(3), v(2), v(1), v(0)))))...), Has: true, Body: lams(below(n, refl())...)},
	})
	trees := blocks()[4]
	own := []api.Level{lv(1, 0), lv(2, 0)}
	all := append(own[:2:2], lv(3, 0))
	w := func(a, b api.Term) api.Term { return app(con(12, own...), a, b) }
	it := app(con(13, own...), v(5), v(4), v(1), v(0))
	binders := row(sort(1, 0), pi(v(0), sort(2, 0)), pi(w(v(1), v(0)), sort(3, 0)),
		pis(v(2), pi(app(v(2), v(0)), w(v(4), v(3))), pi(app(v(3), v(1)), app(v(3), app(v(1), v(0)))), app(v(3), app(con(13, own...), v(5), v(4), v(2), v(1)))),
		v(3), pi(app(v(3), v(0)), w(v(5), v(4))))
	equal := idOf(app(v(3), it), app(con(15, all...), v(5), v(4), v(3), v(2), it),
		app(v(2), v(1), v(0), lam(app(v(4), v(1)), app(con(15, all...), v(6), v(5), v(4), v(3), app(v(1), v(0))))))
	want(t, "trees", cert.Cert(trees, readRules(trees), 7), []api.Core{{Levels: 3, Type: pis(append(binders, equal)...), Has: true, Body: lams(append(binders, refl())...)}})
	equals := blocks()[5]
	e := func(l ...api.Term) api.Term { return app(con(5, u), l...) }
	it = app(con(6, u), v(3), v(2))
	binders = row(sort(1, 0), v(0), pis(v(1), e(v(2), v(1), v(0)), sort(2, 0)), app(v(0), v(1), app(con(6, u), v(2), v(1))))
	equal = idOf(app(v(1), v(2), it), app(con(8, u, lv(2, 0)), v(3), v(2), v(1), v(0), v(2), it), v(0))
	want(t, "at an index", cert.Cert(equals, readRules(equals), 0), []api.Core{{Levels: 2, Type: pis(append(binders, equal)...), Has: true, Body: lams(append(binders, refl())...)}})
	for i, c := range [][]api.Core{
		cert.Cert(nat(), nil, 0), cert.Cert(nat(), readRules(nat())[:1], 0), cert.Cert(axiom(0, sort()), nil, 0), cert.Cert(api.Decl{}, nil, 0), cert.Cert(block(0, nil, lv(), nil), nil, 0), cert.Cert(block(101, nil, lv(), members(nil)), nil, 0),
	} {
		if len(c) != 0 {
			t.Error("none", i)
		}
	}
	for i, d := range blocks() {
		l := cert.Cert(d, readRules(d), 3)
		if len(l) != len(d.Ctors) {
			t.Fatal("one of each constructor", i)
		}
		for _, c := range l {
			if c.Levels != d.Levels+1 || !c.Has || holdsOwn(c.Type) || holdsOwn(c.Body) {
				t.Error("levels, bodies, names", i)
			}
			apart(t, "Cert", d.Params, c.Type, c.Body)
		}
		want(t, "the block", d, blocks()[i])
	}
}

func TestP26_2(t *testing.T) {
	for i, d := range alone() {
		l := append(eliminated(d), cert.Cert(d, readRules(d), 0)...)
		if _, at, e := cenv.All(l, 10000000); e != api.OK {
			t.Error("does not check", i, at, e)
		}
	}
}
