package tests

import (
	"testing"

	"spandrel/api"
	"spandrel/maps"
	"spandrel/nest"
	"spandrel/sconv"
	"spandrel/shead"
	"spandrel/sinfer"
)

// deepNests are more blocks that are unfolded to something else: heads of heads, two instances that lead to each other's members, indices.
func deepNests() []api.Decl {
	n, u := ind(0, 0), lv(1, 0)
	listU := func(x api.Term) api.Term { return app(ind(1, 0, u), x) }
	vecU := func(x, length api.Term) api.Term { return app(ind(4, 0, u), x, length) }
	return append(nestedBlocks(),
		single(pis(n, vecIn(listIn(self(0)), v(0)), self(0))),
		single(pi(listIn(pi(n, listIn(self(0)))), self(0))),
		block(1, row(sort(1, 0)), lv(1, 0), members(row(n)), ct(0, pis(v(0), listU(vecU(app(self(0), ctor(0, 0)), number(2))), app(self(0), number(1))))),
		block(2, row(sort(1, 0), pi(v(0), sort(2, 0))), lv(1, 0, 2, 0), members(nil), ct(0, pis(v(1), pi(app(v(1), v(0)), app(ind(1, 0, lv(1, 0, 2, 0)), self(0))), self(0)))),
	)
}

func TestP27_1(t *testing.T) {
	decls := world()
	n, u := ind(0, 0), lv(1, 0)
	back := func(d api.Decl, x api.Term, below int) api.Term {
		t.Helper()
		y, ok := maps.Back(decls, d, x, below)
		if !ok {
			t.Fatal("no way back", x)
		}
		return y
	}
	r := ind(5, 0)
	want(t, "own", back(rose(), self(0), 0), r)
	want(t, "an instance's", back(rose(), pi(self(1), app(v(0), self(0))), 3), pi(listIn(r), app(v(0), r)))
	lists := nestedBlocks()[2]
	want(t, "heads of heads", back(lists, self(2), 0), listIn(listIn(r)))
	par := nestedBlocks()[1]
	p := func(far int) api.Term { return app(ind(5, 0, u), v(far)) }
	want(t, "params", back(par, pi(self(1), lam(n, self(0))), 2), pi(app(ind(1, 0, u), p(2)), lam(n, p(4))))
	vecs := nestedBlocks()[4]
	want(t, "an index", back(vecs, app(self(1), v(0)), 1), vecIn(r, v(0)))
	fun := nestedBlocks()[6]
	want(t, "heads below binders", back(fun, self(1), 0), listIn(pi(n, r)))
	want(t, "no member", back(rose(), app(v(0), v(3), n), 0), app(v(0), v(3), n))
	want(t, "a block without instances", back(nat(), pi(self(0), self(0)), 0), pi(r, r))
	x := app(self(1), sort(1, 1))
	apart(t, "Back", row(x), back(rose(), x, 0))
	for i, c := range []struct {
		d     api.Decl
		x     api.Term
		below int
	}{
		{rose(), self(2), 0}, {rose(), self(-1), 0}, {rose(), lam(n, self(7)), 0}, {rose(), self(0), -1}, {axiom(0, n), n, 0}, {api.Decl{}, n, 0}, {single(pi(pi(self(0), n), self(0))), n, 0},
		{single(pis(append(times(11, n), self(0))...)), n, 0}, {single(pis(self(0), app(n, v(0)), self(0))), n, 0}, {block(8, nil, lv(), members(nil)), n, 0}, {block(-1, nil, lv(), members(nil)), n, 0},
		{single(pi(listIn(self(1)), self(0))), n, 0},
	} {
		if y, ok := maps.Back(decls, c.d, c.x, c.below); ok || !same(y, api.Term{}) {
			t.Error("a way back", i)
		}
	}
	odd := block(0, row(sort()), lv(), members(nil), ct(0, pi(pi(v(0), n), self(0))), ct(0, pis(append(times(11, n), self(0))...)))
	if _, ok := maps.Back(append(decls, odd), single(pi(app(ind(5, 0), self(0)), self(0))), n, 0); ok {
		t.Error("an instance's rules can't be read")
	}
}

func TestP27_2(t *testing.T) {
	decls := world()
	r, zero := ind(5, 0), lv()
	x, typ, ok := maps.To(decls, rose(), 0, 0)
	want(t, "To", ok, true)
	want(t, "To", typ, pi(ind(5, 1), listIn(r)))
	want(t, "To", x, app(rec(5, 1, zero), lam(r, r), lam(ind(5, 1), listIn(r)),
		lams(ind(5, 1), listIn(r), app(ctor(5, 0), v(1))),
		app(ctor(1, 0, zero), r),
		lams(r, ind(5, 1), r, listIn(r), app(ctor(1, 1, zero), r, v(3), v(0)))))
	from := app(rec(1, 0, zero, zero), r, lam(listIn(r), ind(5, 1)), ctor(5, 1), lams(r, listIn(r), ind(5, 1), app(ctor(5, 2), v(2), v(0))))
	x, typ, ok = maps.From(decls, rose(), 0, 0)
	want(t, "From", ok, true)
	want(t, "From", typ, pi(listIn(r), ind(5, 1)))
	want(t, "From", x, from)
	x, typ, ok = maps.From(decls, nestedBlocks()[2], 1, 0)
	want(t, "From within From", ok, true)
	want(t, "From within From", typ, pi(listIn(listIn(r)), ind(5, 2)))
	inner, _, _ := maps.From(decls, nestedBlocks()[2], 0, 0)
	want(t, "From within From", x, app(rec(1, 0, zero, zero), listIn(r), lam(listIn(listIn(r)), ind(5, 2)), ctor(5, 3), lams(listIn(r), listIn(listIn(r)), ind(5, 2), app(ctor(5, 4), app(inner, v(2)), v(0)))))
	u := lv(1, 0)
	p := func(k api.TermKind, at, far int, args ...api.Term) api.Term {
		return app(app(name(k, 5, at, u), v(far)), args...)
	}
	l := func(far int) api.Term { return app(ind(1, 0, u), p(api.KInd, 0, far)) }
	x, typ, ok = maps.To(decls, nestedBlocks()[1], 0, 0)
	want(t, "params", ok, true)
	want(t, "params", typ, pis(sort(1, 0), p(api.KInd, 1, 0), l(1)))
	want(t, "params", x, lam(sort(1, 0), app(rec(5, 1, u, u), v(0), lam(p(api.KInd, 0, 0), p(api.KInd, 0, 1)), lam(p(api.KInd, 1, 0), l(1)),
		lams(v(0), p(api.KInd, 1, 1), l(2), p(api.KCtor, 0, 3, v(2), v(1))),
		app(ctor(1, 0, u), p(api.KInd, 0, 0)),
		lams(p(api.KInd, 0, 0), p(api.KInd, 1, 1), p(api.KInd, 0, 2), l(3), app(ctor(1, 1, u), p(api.KInd, 0, 4), v(3), v(0))))))
	vecs, n := nestedBlocks()[4], ind(0, 0)
	x, typ, ok = maps.From(decls, vecs, 0, 0)
	want(t, "an index", ok, true)
	want(t, "an index", typ, pis(n, vecIn(r, v(0)), app(ind(5, 1), v(1))))
	want(t, "an index", x, app(rec(4, 0, zero, zero), r, lams(n, vecIn(r, v(0)), app(ind(5, 1), v(1))), ctor(5, 1),
		lams(n, r, vecIn(r, v(1)), app(ind(5, 1), v(2)), app(ctor(5, 2), v(3), v(2), v(0)))))
	high := single(pi(app(ind(1, 0, lv(0, 3)), self(0)), self(0)))
	high.Sort = lv(0, 1)
	x, _, _ = maps.To(decls, high, 0, 0)
	for x.Kind == api.KApp {
		x = x.Kids[0]
	}
	want(t, "the greatest universe", x, rec(5, 1, lv(0, 3)))
	for i, c := range []struct {
		d    api.Decl
		i, m int
	}{{rose(), 1, 0}, {rose(), -1, 0}, {rose(), 0, 1}, {rose(), 0, -1}, {nat(), 0, 0}, {axiom(0, n), 0, 0}, {single(pi(pi(self(0), n), self(0))), 0, 0}, {single(pi(listIn(self(1)), self(0))), 0, 0}} {
		for _, f := range []func([]api.Decl, api.Decl, int, int) (api.Term, api.Term, bool){maps.To, maps.From} {
			if x, typ, ok := f(decls, c.d, c.i, c.m); ok || !same(x, api.Term{}) || !same(typ, api.Term{}) {
				t.Error("no map", i)
			}
		}
	}
	want(t, "the declarations", decls, world())
}

func TestP27_3(t *testing.T) {
	boxed := append(deepNests(), single(pi(app(ind(5, 0, lv()), self(0)), self(0))), single(pi(listIn(app(ind(5, 0, lv()), listIn(self(0)))), self(0))))
	for i, d := range boxed {
		decls := append(world(), blocks()[9])
		whole, e := nest.Unfold(decls, d)
		if e != api.OK {
			t.Fatal("unfold", i, e)
		}
		list, _ := nest.Instances(decls, d)
		over := append(decls[:6:6], whole)
		for j, in := range list {
			for m := range decls[in.Num].Members {
				for which, f := range []func([]api.Decl, api.Decl, int, int) (api.Term, api.Term, bool){maps.To, maps.From} {
					x, typ, ok := f(decls, d, j, m)
					if !ok {
						t.Fatal("no map", i, j, m, which)
					}
					if _, e := sinfer.Check(over, d.Levels, nil, x, typ, api.MaxFuel); e != api.OK {
						t.Error("a map is not of its type", i, j, m, which, e)
					}
				}
			}
		}
	}
	over := append(world(), must(nest.Unfold(world(), rose())))
	to, _, _ := maps.To(world(), rose(), 0, 0)
	from, _, _ := maps.From(world(), rose(), 0, 0)
	r := ind(5, 0)
	none, leaf := ctor(5, 1), app(ctor(5, 0), ctor(5, 1))
	own := app(ctor(5, 2), leaf, app(ctor(5, 2), leaf, none))
	nilOf := app(ctor(1, 0, lv()), r)
	there := app(ctor(1, 1, lv()), r, leaf, app(ctor(1, 1, lv()), r, leaf, nilOf))
	for i, c := range []struct{ a, b api.Term }{{app(to, own), there}, {app(from, there), own}, {app(to, none), nilOf}, {app(from, app(to, own)), own}} {
		if yes, _, e := sconv.Conv(over, c.a, c.b, 100000); !yes || e != api.OK {
			t.Error("a map at a constructor", i, e)
		}
	}
	h, _, _ := shead.Whnf(over, app(to, own), 100000)
	want(t, "the first one of a list", h.Kids[0].Kids[1], leaf)
}

// must is a declaration that is told without an error.
func must(d api.Decl, e api.Errno) api.Decl {
	if e != api.OK {
		panic(e)
	}
	return d
}
