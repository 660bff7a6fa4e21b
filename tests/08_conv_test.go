package tests

import (
	"testing"

	"spandrel/api"
	"spandrel/conv"
	"spandrel/head"
	"spandrel/norm"
)

// askedCase is a question, what it is told, and what it costs.
type askedCase struct {
	a, b api.Term
	want bool
	cost int
}

func convCases() []askedCase {
	id := lam(fin(2), v(0))
	p, q := pair(fst(v(0)), snd(v(0))), v(0)
	return []askedCase{
		{v(0), v(0), true, 1}, {sort(0, 0), sort(), true, 1}, {v(0), v(1), false, 1}, {fin(2), fin(3), false, 1},
		{lam(fin(2), app(v(1), v(0))), v(0), true, 2}, {v(0), lam(fin(2), app(v(1), v(0))), true, 2},
		{lam(fin(2), v(0)), lam(fin(3), v(0)), true, 2}, {lam(fin(2), v(0)), lam(fin(2), v(1)), false, 2},
		{lam(fin(2), app(v(2), v(0))), v(0), false, 3}, {lam(fin(2), app(v(0), v(1))), v(0), false, 3},
		{p, q, true, 3}, {q, p, true, 3}, {pair(v(1), v(2)), pair(v(1), v(2)), true, 1},
		{pair(fst(v(0)), snd(v(1))), q, false, 4}, {pair(snd(v(0)), snd(v(0))), q, false, 2}, {pair(app(id, v(1)), v(2)), pair(v(1), v(2)), true, 4},
		{app(id, v(1)), v(1), true, 2}, {con(1), fin(2), true, 2}, {con(1), fin(3), false, 2},
		{app(v(0), con(1), con(1)), app(v(0), fin(2), fin(2)), true, 7},
		{app(v(0), con(1)), app(v(1), con(1)), false, 2}, {app(v(0), v(1)), app(v(0), v(2)), false, 3},
		{pi(con(1), con(0)), pi(fin(2), con(0)), true, 4}, {sigma(con(1), con(0)), tree(con(1), con(0)), false, 1},
		{sort(1, 0), sort(1, 1), false, 1}, {con(0, lv(1, 0)), con(0, lv()), false, 1}, {con(0, lv(1, 0)), con(0), false, 1},
		{treeRec(v(1), v(1), v(2), v(3), v(4)), treeRec(v(8), v(9), v(2), v(3), v(4)), true, 4},
		{treeRec(v(1), v(1), v(2), v(3), v(4)), treeRec(v(1), v(1), v(2), v(3), v(5)), false, 4},
		{jay(v(1), v(2), v(3), v(4), v(5), v(6)), jay(v(7), v(8), v(3), v(4), v(9), v(6)), true, 4},
		{jay(v(1), v(2), v(3), v(4), v(5), v(6)), jay(v(1), v(2), v(0), v(4), v(5), v(6)), false, 2},
		{cas(v(1), v(2), con(1)), cas(v(1), v(2), fin(2)), true, 5}, {cas(v(1), v(2), fin(2)), cas(v(3), v(2), fin(2)), false, 2},
		{idOf(con(1), v(0), v(1)), idOf(fin(2), v(0), v(1)), true, 5}, {elem(1, 2), elem(1, 3), false, 1}, {elem(1, 2), elem(0, 2), false, 1},
		{lam(fin(2), pair(v(0), v(1))), pair(v(0), v(1)), false, 3},
	}
}

func leqCases() []askedCase {
	return []askedCase{
		{sort(1, 0), sort(1, 1), true, 1}, {sort(1, 1), sort(1, 0), false, 1}, {sort(0, 1), sort(0, 1), true, 1}, {sort(), sort(1, 0), true, 1},
		{pi(fin(2), sort()), pi(fin(2), sort(0, 1)), true, 3}, {pi(fin(2), sort(0, 1)), pi(fin(2), sort()), false, 3},
		{pi(sort(), fin(2)), pi(sort(0, 1), fin(2)), false, 2}, {pi(con(1), pi(v(0), sort())), pi(fin(2), pi(v(0), sort(1, 0))), true, 6},
		{con(1), fin(2), true, 3}, {fin(3), fin(2), false, 2}, {sigma(fin(2), sort()), sigma(fin(2), sort(0, 1)), false, 4},
		{let(fin(1), sort(), v(0)), sort(0, 3), true, 2}, {sort(0, 3), let(fin(1), sort(), v(0)), false, 2},
		{lam(fin(2), sort()), lam(fin(2), sort(0, 1)), false, 3}, {pi(fin(2), fin(2)), sort(), false, 2},
		{name(api.KSort, 0, 0, lv(), lv()), name(api.KSort, 0, 0, lv(), lv(0, 1)), false, 2},
	}
}

func TestP8_1(t *testing.T) {
	l := coreEnv()
	for which, ask := range []func(l []api.Core, a, b api.Term, fuel int) (bool, int, api.Errno){conv.Conv, conv.Leq} {
		cases := convCases()
		if which == 1 {
			cases = leqCases()
		}
		for i, c := range cases {
			yes, left, e := ask(l, c.a, c.b, 60)
			if yes != c.want || left != 60-c.cost || e != api.OK {
				t.Error(which, i, yes, 60-left, e)
			}
			if yes, left, e := ask(l, c.a, c.b, c.cost); yes != c.want || left != 0 || e != api.OK {
				t.Error("just enough", which, i)
			}
			if yes, left, e := ask(l, c.a, c.b, c.cost-1); yes || left != 0 || e != api.ErrFuel {
				t.Error("too little", which, i)
			}
		}
		for _, fuel := range []int{-1, api.MaxFuel + 1} {
			if yes, left, e := ask(l, v(0), v(0), fuel); yes || left != 0 || e != api.ErrArg {
				t.Error("ErrArg", fuel)
			}
		}
		none := api.Term{}
		for _, x := range []api.Term{none, node(api.KLam), node(api.KPair), node(api.KApp), node(api.KTreeRec, v(0)), {Kind: 99, At: -5}, {Kind: api.KCase, At: -2}} {
			for _, y := range []api.Term{none, node(api.KLam, v(0)), node(api.KPair, v(0)), node(api.KPi), {Kind: 99, At: -5, Kids: row(v(0))}, {Kind: api.KCase, At: -1, Kids: row(v(0))}} {
				if _, _, e := ask(l, x, y, 100); e != api.OK {
					t.Error("wrong terms", x, y, e)
				}
			}
		}
		again, again2 := lam(fin(2), lam(fin(2), app(v(1), v(1)))), lam(fin(3), lam(fin(2), app(v(1), v(1))))
		if _, _, e := ask(l, app(again, again), app(again2, again2), 500000); e != api.ErrFuel {
			t.Error("no end")
		}
	}
}

func TestP8_2(t *testing.T) {
	l := coreEnv()
	r := chance(8)
	told := 0
	for range 3000 {
		f := lam(fin(2), coreTerm(r, 4, 3))
		x := app(f, coreTerm(r, 3, 2))
		n := r.Intn(5)
		y, _ := stepWithin(l, x, &n)
		z := coreTerm(r, 3, 2)
		if yes, left, e := conv.Conv(l, x, x, 1); !yes || left != 0 || e != api.OK {
			t.Fatal("itself", x)
		}
		yes, left, e := conv.Conv(l, x, y, 50000)
		back, left2, e2 := conv.Conv(l, y, x, 50000)
		if yes != back || left != left2 || e != e2 {
			t.Fatal("turned round", x, y)
		}
		if e == api.OK {
			told++
			if !yes {
				t.Fatal("a step", x, y)
			}
			if least, _, e := conv.Leq(l, x, y, 100000); !least || e != api.OK {
				t.Fatal("at most", x, y)
			}
		}
		one, _, e := conv.Conv(l, x, z, 50000)
		nx, _, e1 := norm.Norm(l, x, 50000)
		nz, _, e2 := norm.Norm(l, z, 50000)
		if e == api.OK && e1 == api.OK && e2 == api.OK && same(nx, nz) && !one {
			t.Fatal("one normal form", x, z)
		}
		if h, _, e := head.Whnf(l, x, 50000); e == api.OK && h.Kind != api.KLam {
			if yes, _, _ := conv.Conv(l, pair(fst(h), snd(x)), h, 200000); !yes {
				t.Fatal("pairs", h)
			}
		}
	}
	if told < 1000 {
		t.Error("too few were told", told)
	}
}
