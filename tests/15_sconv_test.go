package tests

import (
	"testing"

	"spandrel/api"
	"spandrel/sconv"
	"spandrel/shead"
)

func sconvCases() []askedCase {
	n, u := ind(0, 0), lv(1, 0)
	id := lam(n, v(0))
	one := app(ctor(0, 1), ctor(0, 0))
	return []askedCase{
		{v(0), v(0), true, 1}, {sort(0, 0), sort(), true, 1}, {v(0), v(1), false, 1}, {n, ind(0, 1), false, 1}, {n, ind(1, 0), false, 1}, {ind(1, 0, u), ind(1, 0, lv()), false, 1}, {ind(1, 0, u), ind(1, 0), false, 1}, {ind(0, 0), ctor(0, 0), false, 1},
		{lam(n, app(v(1), v(0))), v(0), true, 2}, {v(0), lam(n, app(v(1), v(0))), true, 2}, {lam(n, app(v(2), v(0))), v(0), false, 3}, {lam(n, v(0)), lam(sort(), v(0)), true, 2}, {lam(n, v(0)), lam(n, v(1)), false, 2},
		{app(id, v(1)), v(1), true, 2}, {con(3), sort(), true, 2}, {con(3), sort(1, 0), false, 2},
		{app(v(0), con(3), con(3)), app(v(0), sort(), sort()), true, 7}, {app(v(0), con(3)), app(v(1), con(3)), false, 2}, {app(v(0), v(1)), app(v(0), v(2)), false, 3},
		{pi(con(3), n), pi(sort(), n), true, 4}, {pi(n, sort()), pi(n, sort(1, 0)), false, 3},
		{app(rec(0, 0, u), v(1), v(2), v(3), one), app(v(3), ctor(0, 0), v(2)), true, 17},
		{node(api.KLam, n), v(0), false, 1}, {node(api.KPi, n), node(api.KPi, n, n), false, 1},
		{sort(), sort(0, 1), false, 1}, {name(api.KSort, 0, 0, lv(), lv()), name(api.KSort, 0, 0, lv(), lv(0, 1)), false, 1},
	}
}

func sleqCases() []askedCase {
	n := ind(0, 0)
	return []askedCase{
		{sort(1, 0), sort(1, 1), true, 1}, {sort(1, 1), sort(1, 0), false, 1}, {sort(0, 1), sort(0, 1), true, 1}, {sort(), sort(1, 0), true, 1},
		{pi(n, sort()), pi(n, sort(0, 1)), true, 3}, {pi(n, sort(0, 1)), pi(n, sort()), false, 3}, {pi(sort(), n), pi(sort(0, 1), n), false, 2}, {pi(con(3), pi(v(0), sort())), pi(sort(), pi(v(0), sort(1, 0))), true, 6},
		{con(3), sort(), true, 2}, {con(3), sort(1, 0), true, 2}, {n, ind(0, 1), false, 1}, {app(v(0), con(3)), app(v(0), sort()), true, 4}, {app(v(0), sort()), app(v(0), sort(0, 1)), false, 3},
		{let(n, sort(), v(0)), sort(0, 3), true, 2}, {lam(n, sort()), lam(n, sort(0, 1)), false, 2}, {pi(n, n), sort(), false, 1}, {node(api.KPi, sort()), node(api.KPi, sort(0, 1)), false, 2},
		{name(api.KSort, 0, 0, lv(), lv()), name(api.KSort, 0, 0, lv(), lv(0, 1)), false, 1},
	}
}

func TestP15_1(t *testing.T) {
	decls := world()
	for which, ask := range []func(decls []api.Decl, a, b api.Term, fuel int) (bool, int, api.Errno){sconv.Conv, sconv.Leq} {
		cases := sconvCases()
		if which == 1 {
			cases = sleqCases()
		}
		for i, c := range cases {
			yes, left, e := ask(decls, c.a, c.b, 60)
			if yes != c.want || left != 60-c.cost || e != api.OK {
				t.Error(which, i, yes, 60-left, e)
			}
			if yes, left, e := ask(decls, c.a, c.b, c.cost); yes != c.want || left != 0 || e != api.OK {
				t.Error("just enough", which, i)
			}
			if yes, left, e := ask(decls, c.a, c.b, c.cost-1); yes || left != 0 || e != api.ErrFuel {
				t.Error("too little", which, i)
			}
		}
		for _, fuel := range []int{-1, api.MaxFuel + 1} {
			if yes, left, e := ask(decls, v(0), v(0), fuel); yes || left != 0 || e != api.ErrArg {
				t.Error("ErrArg", fuel)
			}
		}
		none := api.Term{}
		for _, x := range []api.Term{none, node(api.KLam), node(api.KApp), node(api.KLet), {Kind: 99, At: -5}} {
			for _, y := range []api.Term{none, node(api.KLam, v(0)), node(api.KPi), {Kind: 99, At: -5, Kids: row(v(0))}, con(-1)} {
				if yes, _, e := ask(decls, x, y, 100); e != api.OK || yes != same(x, y) {
					t.Error("wrong terms", x, y, e)
				}
			}
		}
		again, again2 := lam(sort(), lam(sort(), app(v(1), v(1)))), lam(sort(0, 1), lam(sort(), app(v(1), v(1))))
		if _, _, e := ask(decls, app(again, again), app(again2, again2), 500000); e != api.ErrFuel {
			t.Error("no end")
		}
	}
}

func TestP15_2(t *testing.T) {
	r := chance(15)
	decls := world()
	told := 0
	for range 3000 {
		x := app(lam(sort(), sourceTerm(r, 5, 3)), sourceTerm(r, 4, 2))
		z := sourceTerm(r, 3, 2)
		if r.Intn(3) == 0 {
			x, z = plus(double(number(r.Intn(3))), number(r.Intn(2))), number(r.Intn(6))
		}
		if yes, left, e := sconv.Conv(decls, x, x, 1); !yes || left != 0 || e != api.OK {
			t.Fatal("itself", x)
		}
		yes, left, e := sconv.Conv(decls, x, z, 50000)
		back, _, e2 := sconv.Conv(decls, z, x, 50000)
		if e == api.OK && e2 == api.OK && yes != back {
			t.Fatal("turned round", x, z)
		}
		if e == api.OK {
			told++
			more, left2, _ := sconv.Conv(decls, x, z, 60000)
			if more != yes || left2 != left+10000 {
				t.Fatal("more fuel", x, z)
			}
			if _, _, e := sconv.Conv(decls, x, z, 50000-left-1); e != api.ErrFuel {
				t.Fatal("less fuel", x, z)
			}
		}
		h, _, e := shead.Whnf(decls, x, 50000)
		if e != api.OK {
			continue
		}
		if yes, _, e := sconv.Conv(decls, x, h, 200000); e == api.OK && !yes {
			t.Fatal("at its head", x)
		}
		if yes, _, e := sconv.Leq(decls, x, h, 200000); e == api.OK && !yes {
			t.Fatal("at its head", x)
		}
	}
	if told < 1500 {
		t.Error("too few were told", told)
	}
	for i := range 5 {
		for j := range 5 {
			yes, _, _ := sconv.Conv(decls, double(number(i)), plus(number(i), number(j)), 5000)
			want(t, "numbers", yes, i == j)
		}
	}
}
