package tests

import (
	"testing"

	"spandrel/api"
	"spandrel/shead"
	"spandrel/term"
)

// number is a number: so many successors.
func number(n int) api.Term {
	x := ctor(0, 0)
	for range n {
		x = app(ctor(0, 1), x)
	}
	return x
}

// double is twice a number, by the recursor.
func double(x api.Term) api.Term {
	n := ind(0, 0)
	return app(rec(0, 0, lv()), lam(n, n), ctor(0, 0), lams(n, n, app(ctor(0, 1), app(ctor(0, 1), v(0)))), x)
}

// plus is the one and the other, by the recursor, over the first one.
func plus(x, y api.Term) api.Term {
	n := ind(0, 0)
	return app(rec(0, 0, lv()), lam(n, n), y, lams(n, n, app(ctor(0, 1), v(0))), x)
}

func sheadCases() []headCase {
	n, u := ind(0, 0), lv(1, 0)
	id := lam(n, v(0))
	m, z, s := v(11), v(12), v(13)
	natRec := func(x api.Term) api.Term { return app(rec(0, 0, u), m, z, s, x) }
	nilOf := app(ctor(1, 0, u), v(7))
	return []headCase{
		{app(id, v(3)), v(3), 1}, {app(id, v(3), v(4)), app(v(3), v(4)), 1}, {id, id, 0}, {node(api.KLam, n), node(api.KLam, n), 0},
		{app(node(api.KLam, n, v(0), v(1)), v(2)), app(node(api.KLam, n, v(0), v(1)), v(2)), 0}, {app(node(api.KLam, n), v(2)), app(node(api.KLam, n), v(2)), 0},
		{let(n, app(v(1), v(2)), app(v(0), v(0))), app(v(1), v(2), app(v(1), v(2))), 7}, {app(let(n, v(1), v(0)), v(2)), app(v(1), v(2)), 1}, {node(api.KLet, n, n), node(api.KLet, n, n), 0},
		{con(3), sort(), 1}, {app(con(3), v(0)), app(sort(), v(0)), 1}, {con(3, u), con(3, u), 0}, {con(2, u), con(2, u), 0}, {con(0), con(0), 0}, {con(99), con(99), 0}, {con(-1), con(-1), 0},
		{natRec(ctor(0, 0)), z, 1}, {natRec(app(ctor(0, 1), v(5))), app(s, v(5), natRec(v(5))), 13}, {app(natRec(ctor(0, 0)), v(1)), app(z, v(1)), 1},
		{natRec(app(id, ctor(0, 0))), z, 2}, {natRec(app(id, v(5))), natRec(v(5)), 1}, {natRec(v(5)), natRec(v(5)), 0}, {natRec(app(ctor(0, 1), v(5), v(6))), natRec(app(ctor(0, 1), v(5), v(6))), 0}, {natRec(ctor(0, 1)), natRec(ctor(0, 1)), 0},
		{natRec(ctor(1, 0, u)), natRec(ctor(1, 0, u)), 0}, {natRec(ctor(0, 2)), natRec(ctor(0, 2)), 0}, {natRec(ctor(0, -1)), natRec(ctor(0, -1)), 0},
		{app(rec(0, 0, u), m, z, s), app(rec(0, 0, u), m, z, s), 0}, {app(rec(0, 0), m, z, s, ctor(0, 0)), app(rec(0, 0), m, z, s, ctor(0, 0)), 0}, {app(rec(0, 1, u), m, z, s, ctor(0, 0)), app(rec(0, 1, u), m, z, s, ctor(0, 0)), 0},
		{app(rec(0, -1, u), m, z, s, ctor(0, 0)), app(rec(0, -1, u), m, z, s, ctor(0, 0)), 0}, {app(rec(2, 0, u, u), m, z, s, ctor(0, 0)), app(rec(2, 0, u, u), m, z, s, ctor(0, 0)), 0}, {app(rec(-1, 0, u), m, z, s, ctor(0, 0)), app(rec(-1, 0, u), m, z, s, ctor(0, 0)), 0},
		{app(rec(1, 0, u, u), v(6), m, z, s, nilOf), z, 1}, {app(rec(1, 0, u, u), v(6), m, z, s, ctor(1, 0, u)), app(rec(1, 0, u, u), v(6), m, z, s, ctor(1, 0, u)), 0},
		{app(rec(1, 0, u, u), v(6), m, z, s, app(ctor(1, 1, u), v(7), v(8), nilOf)), app(s, v(8), nilOf, app(rec(1, 0, u, u), v(6), m, z, s, nilOf)), 21},
		{natRec(natRec(ctor(0, 0))), natRec(z), 1}, {pi(con(3), n), pi(con(3), n), 0}, {v(2), v(2), 0},
		{app(rec(4, 0, u, u), v(6), m, z, s, ctor(0, 0), app(ctor(4, 0, u), v(6))), z, 1},
		{app(rec(4, 0, u, u), v(6), m, z, s, app(ctor(4, 0, u), v(6))), app(rec(4, 0, u, u), v(6), m, z, s, app(ctor(4, 0, u), v(6))), 0},
	}
}

func TestP14_1(t *testing.T) {
	decls := world()
	for i, c := range sheadCases() {
		got, left, e := shead.Whnf(decls, c.x, 100)
		if !same(got, c.want) || left != 100-c.cost || e != api.OK {
			t.Error(i, 100-left, e, got)
		}
		if _, left, e := shead.Whnf(decls, c.x, c.cost); left != 0 || e != api.OK {
			t.Error("just enough", i, left, e)
		}
		if got, left, e := shead.Whnf(decls, c.x, c.cost-1); c.cost > 0 && (e != api.ErrFuel || left != 0 || !same(got, api.Term{})) {
			t.Error("too little", i, left, e)
		}
	}
	for _, fuel := range []int{-1, api.MaxFuel + 1} {
		if got, left, e := shead.Whnf(decls, v(0), fuel); e != api.ErrArg || left != 0 || !same(got, api.Term{}) {
			t.Error("ErrArg", fuel)
		}
	}
	x := double(number(2))
	for i := range 4 {
		h, _, e := shead.Whnf(decls, x, api.MaxFuel)
		if e != api.OK || !same(h.Kids[0], ctor(0, 1)) {
			t.Fatal("double 2", i, h)
		}
		x = h.Kids[1]
	}
	if h, _, _ := shead.Whnf(decls, x, 100); !same(h, ctor(0, 0)) {
		t.Error("double 2", h)
	}
	again := lam(sort(), app(v(0), v(0)))
	loops := append(decls, def(0, sort(), con(5)))
	grows := lam(sort(), app(v(0), v(0), v(0)))
	for _, x := range []api.Term{app(again, again), app(grows, grows), con(5), app(rec(0, 0, lv()), v(0), v(0), v(0), con(5))} {
		if _, _, e := shead.Whnf(loops, x, 300000); e != api.ErrFuel {
			t.Error("no end")
		}
	}
	deep := number(0)
	for range 200 {
		deep = plus(deep, number(1))
	}
	if h, _, e := shead.Whnf(decls, deep, api.MaxFuel); e != api.OK || !same(h.Kids[0], ctor(0, 1)) {
		t.Error("deep recursors")
	}
}

func TestP14_2(t *testing.T) {
	decls := world()
	n, u := ind(0, 0), lv(1, 0)
	id := lam(n, v(0))
	natRec := func(x api.Term) api.Term { return app(rec(0, 0, u), v(11), v(12), v(13), x) }
	for i, c := range []struct {
		x, want api.Term
		steps   bool
	}{
		{app(id, id, v(3)), app(id, v(3)), true}, {natRec(app(id, app(id, v(3)))), natRec(app(id, v(3))), true}, {app(natRec(app(id, ctor(0, 0))), v(2)), app(natRec(ctor(0, 0)), v(2)), true},
		{natRec(natRec(natRec(con(3)))), natRec(natRec(natRec(sort()))), true}, {natRec(app(id, v(4))), natRec(v(4)), true}, {natRec(v(4)), natRec(v(4)), false}, {pi(con(3), n), pi(con(3), n), false}, {api.Term{}, api.Term{}, false},
	} {
		got, steps := shead.Step(decls, c.x)
		if steps != c.steps || !same(got, c.want) {
			t.Error(i, got)
		}
	}
}

func TestP14_3(t *testing.T) {
	r := chance(14)
	decls := world()
	for range 3000 {
		x := app(lam(sort(), sourceTerm(r, 5, 3)), sourceTerm(r, 4, 2))
		if r.Intn(3) == 0 {
			x = plus(double(number(r.Intn(3))), double(number(r.Intn(3))))
		}
		got, left, e := shead.Whnf(decls, x, 5000)
		if e != api.OK {
			continue
		}
		y := x
		for {
			next, steps := shead.Step(decls, y)
			if !steps {
				break
			}
			before, l1, _ := shead.Whnf(decls, y, 10000)
			after, l2, _ := shead.Whnf(decls, next, 10000)
			want(t, "a step", after, before)
			if l2 <= l1 {
				t.Fatal("a step costs", y)
			}
			y = next
		}
		want(t, "Step again and again", y, got)
		again, left2, _ := shead.Whnf(decls, got, 7)
		want(t, "at its head", again, got)
		want(t, "at its head", left2, 7)
		if _, left3, e := shead.Whnf(decls, x, 6000); left3 != left+1000 || e != api.OK {
			t.Fatal("more fuel", x)
		}
		if _, _, e := shead.Whnf(decls, x, 5000-left-1); left < 5000 && e != api.ErrFuel {
			t.Fatal("less fuel", x)
		}
	}
	want(t, "the declarations", decls, world())
}

func TestSheadMemory(t *testing.T) {
	decls := append(world(), def(1, sort(), lam(sort(1, 1), app(con(2, lv(1, 3)), v(0), v(0)))))
	x := app(con(5, lv(1, 2)), app(sort(1, 1), con(2, lv(1, 1))))
	h, _, _ := shead.Whnf(decls, x, 100)
	apart(t, "Whnf", row(x, decls[5].Body), h.Kids[0].Kids[1], h.Kids[1])
	h, _ = shead.Step(decls, x)
	apart(t, "Step", row(x, decls[5].Body), h)
	h, _ = shead.Step(decls, v(0))
	apart(t, "Step", row(x), h)
	if term.Size(decls[5].Body) != 7 {
		t.Error("the declaration")
	}
}
