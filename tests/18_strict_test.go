package tests

import (
	"testing"

	"spandrel/api"
	"spandrel/split"
	"spandrel/strict"
)

// onePar is a block of one type param, and constructors of these types.
func onePar(types ...api.Term) api.Decl {
	d := block(1, row(sort(1, 0)), lv(1, 0), members(nil))
	for _, t := range types {
		d.Ctors = append(d.Ctors, ct(0, t))
	}
	return d
}

func TestP18_1(t *testing.T) {
	u := lv(1, 0)
	l := func(x api.Term) api.Term { return app(ind(1, 0, u), x) }
	n := ind(0, 0)
	withIndex := block(1, row(sort(1, 0)), lv(1, 0), members(row(n, pi(n, v(2)))), ct(0, app(self(0), n, n)))
	two := block(1, row(sort(1, 0), sort(1, 0)), lv(1, 0), members(nil), ct(0, pis(v(1), v(1), self(0))), ct(0, pis(pi(v(0), v(2)), self(0))))
	for i, c := range []struct {
		d    api.Decl
		a    int
		want bool
	}{
		{onePar(self(0), pis(v(0), self(0), self(0))), 0, true}, {onePar(pis(v(0), self(0))), 1, false}, {onePar(pis(v(0), self(0))), -1, false}, {nat(), 0, false}, {axiom(0, n), 0, false}, {api.Decl{}, 0, false},
		{onePar(pi(pi(v(0), n), self(0))), 0, false}, {onePar(pi(pi(n, v(1)), self(0))), 0, true}, {onePar(pi(pi(n, pi(n, v(2))), self(0))), 0, true}, {onePar(pi(pis(n, v(1), v(2)), self(0))), 0, false},
		{onePar(pi(app(v(0), n), self(0))), 0, true}, {onePar(pi(app(v(0), v(0)), self(0))), 0, false}, {onePar(pi(app(self(0), v(0)), self(0))), 0, false}, {onePar(app(self(0), v(0))), 0, false}, {onePar(pi(n, app(self(0), v(1)))), 0, false},
		{onePar(pi(l(v(0)), self(0))), 0, true}, {onePar(pi(l(l(v(0))), self(0))), 0, true}, {onePar(pi(l(pi(v(0), n)), self(0))), 0, false}, {onePar(pi(l(pi(n, v(1))), self(0))), 0, true}, {onePar(pi(pi(l(v(0)), n), self(0))), 0, false}, {onePar(pi(app(l(n), v(0)), self(0))), 0, false}, {onePar(pi(ind(1, 0, u), self(0))), 0, true}, {onePar(pi(lam(n, v(1)), self(0))), 0, false},
		{onePar(pi(app(ind(1, 0, u)), self(0))), 0, true}, {onePar(pi(app(ind(2, 0, u), v(0)), self(0))), 0, false}, {onePar(pi(app(ind(0, 0), v(0)), self(0))), 0, false}, {onePar(pi(app(ind(3, 0), v(0)), self(0))), 0, false}, {onePar(pi(app(ind(-1, 0), v(0)), self(0))), 0, false},
		{onePar(pi(app(ind(4, 0, u), v(0), ctor(0, 0)), self(0))), 0, true}, {onePar(pi(app(ind(4, 0, u), n, v(0)), self(0))), 0, false}, {onePar(pi(app(ind(5, 0, u), v(0)), self(0))), 0, false}, {onePar(pi(app(ind(6, 0), v(0)), self(0))), 0, false},
		{onePar(pi(con(2, u), self(0))), 0, true}, {onePar(pi(app(con(2, u), v(0)), self(0))), 0, false}, {onePar(), 0, true}, {onePar(pi(ind(5, 7, u), self(0))), 0, true},
		{withIndex, 0, false}, {two, 0, true}, {two, 1, false},
	} {
		decls := append(world(), onePar(pi(pi(v(0), ind(0, 0)), self(0))), c.d)
		if strict.Param(decls, 6, c.a) != c.want {
			t.Error(i)
		}
		if strict.Param(append(decls, nat(), list()), 6, c.a) != c.want {
			t.Error("declarations behind", i)
		}
	}
	for _, num := range []int{-1, 5, 99} {
		if strict.Param(world(), num, 0) {
			t.Error("no declaration", num)
		}
	}
	if !strict.Param(world(), 1, 0) || !strict.Param(world(), 4, 0) || strict.Param(world(), 2, 0) {
		t.Error("world")
	}
	chainOf := []api.Decl{list()}
	for i := range 60 {
		chainOf = append(chainOf, onePar(pis(app(ind(i, 0, u), v(0)), app(ind(i, 0, u), v(1)), app(ind(i, 0, u), v(2)), self(0))))
	}
	if !strict.Param(chainOf, 60, 0) {
		t.Error("asked once")
	}
}

func TestP18_2(t *testing.T) {
	decls := append(world(), onePar(pi(pi(v(0), ind(0, 0)), self(0))))
	u := lv(1, 0)
	l := func(x api.Term) api.Term { return app(ind(1, 0, lv()), x) }
	n := ind(0, 0)
	one := func(types ...api.Term) api.Decl {
		d := block(0, nil, lv(), members(nil))
		for _, t := range types {
			d.Ctors = append(d.Ctors, ct(0, t))
		}
		return d
	}
	for i, c := range []struct {
		d    api.Decl
		want bool
	}{
		{nat(), true}, {one(pi(l(self(0)), self(0))), true}, {one(pi(l(l(self(0))), self(0))), true}, {one(pi(pi(n, l(self(0))), self(0))), true}, {one(pi(l(pi(n, self(0))), self(0))), true}, {one(pi(l(pi(self(0), n)), self(0))), false},
		{one(pi(pi(self(0), n), self(0))), false}, {one(pi(pi(l(self(0)), n), self(0))), false}, {one(pi(pis(n, self(0), self(0)), self(0))), false}, {one(pi(app(ind(5, 0, u), self(0)), self(0))), false}, {one(pi(app(ind(5, 0, u), n), self(0))), true},
		{one(n), false}, {one(pi(n, n)), false}, {one(l(self(0))), false}, {one(app(self(0), n)), true}, {one(app(self(3), self(0))), false}, {one(pi(app(self(0), self(0)), self(0))), false}, {one(pi(app(self(9), n), self(-1))), true},
		{one(pi(app(ind(4, 0, u), self(0), n), self(0))), true}, {one(pi(app(ind(4, 0, u), n, self(0)), self(0))), false}, {one(pi(app(ind(9, 0, u), self(0)), self(0))), false}, {one(pi(app(con(2, u), self(0)), self(0))), false}, {one(pi(lam(n, self(0)), self(0))), false}, {one(pi(app(v(0), self(0)), self(0))), false},
		{one(self(0), pi(pi(self(0), n), self(0))), false}, {axiom(0, n), false}, {api.Decl{}, false}, {one(), true}, {one(api.Term{}), false},
	} {
		if strict.Positive(decls, c.d) != c.want {
			t.Error(i)
		}
	}
}

func TestP18_3(t *testing.T) {
	for i, d := range blocks() {
		if _, e := split.Rules(d); e == api.OK && (!strict.Positive(nil, d) || !strict.Positive(world(), d)) {
			t.Error("rules can be read", i)
		}
	}
	unused := block(2, row(sort(1, 0), sort(2, 0)), lv(2, 0), members(nil), ct(0, pis(v(0), self(0))))
	if !strict.Param([]api.Decl{unused}, 0, 0) || !strict.Param([]api.Decl{unused}, 0, 1) {
		t.Error("mentioned nowhere")
	}
}
