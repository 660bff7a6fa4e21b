package tests

import (
	"testing"

	"spandrel/api"
	"spandrel/head"
	"spandrel/norm"
)

func TestP7_1(t *testing.T) {
	l := coreEnv()
	id := lam(fin(2), v(0))
	for _, c := range []headCase{
		{lam(fin(2), app(id, v(0))), lam(fin(2), v(0)), 1},
		{pair(app(id, con(1)), con(1)), pair(fin(2), fin(2)), 3},
		{app(v(0), app(id, app(id, v(1)))), app(v(0), v(1)), 6},
		{lam(con(1), con(0)), lam(fin(2), con(0)), 1},
		{cas(lam(con(1), con(1)), app(id, v(0)), con(1)), cas(lam(fin(2), fin(2)), v(0), fin(2)), 4},
		{v(3), v(3), 0},
		{api.Term{Kind: 88, Kids: row(con(1), api.Term{})}, api.Term{Kind: 88, Kids: row(fin(2), api.Term{})}, 1},
	} {
		got, left, e := norm.Norm(l, c.x, 50)
		want(t, "Norm", got, c.want)
		want(t, "Norm", left, 50-c.cost)
		want(t, "Norm", e, api.OK)
		if got, left, e := norm.Norm(l, c.x, c.cost-1); c.cost > 0 && (e != api.ErrFuel || left != 0 || !same(got, api.Term{})) {
			t.Error("too little", c.x)
		}
		if _, left, e := norm.Norm(l, c.x, c.cost); left != 0 || e != api.OK {
			t.Error("just enough", c.x)
		}
	}
	for _, fuel := range []int{-1, api.MaxFuel + 1} {
		if got, left, e := norm.Norm(l, v(0), fuel); e != api.ErrArg || left != 0 || !same(got, api.Term{}) {
			t.Error("ErrArg", fuel)
		}
	}
	again := lam(fin(2), lam(fin(2), app(v(1), v(1))))
	for _, x := range []api.Term{con(4), app(again, again)} {
		if _, _, e := norm.Norm(l, x, 200000); e != api.ErrFuel {
			t.Error("no end")
		}
	}
}

func TestP7_2(t *testing.T) {
	l := coreEnv()
	id := lam(fin(2), v(0))
	for i, c := range []struct {
		x    api.Term
		want bool
	}{
		{v(0), true}, {id, true}, {con(0), true}, {con(1), false}, {lam(fin(2), con(1)), false}, {app(v(0), con(0)), true},
		{app(v(0), app(id, v(0))), false}, {app(id, v(0)), false}, {pair(refl(), fst(pair(v(0), v(0)))), false}, {api.Term{}, true},
		{lam(let(v(0), v(0), v(0)), v(0)), false}, {api.Term{Kind: 88, Kids: row(con(1))}, false},
	} {
		if norm.Normal(l, c.x) != c.want {
			t.Error(i)
		}
	}
}

// stepWithin takes the n-th step that there is within a term.
func stepWithin(l []api.Core, x api.Term, n *int) (api.Term, bool) {
	if y, _, steps := head.Step(l, x); steps {
		if *n == 0 {
			return y, true
		}
		*n--
	}
	for i := range x.Kids {
		if y, ok := stepWithin(l, x.Kids[i], n); ok {
			kids := append([]api.Term(nil), x.Kids...)
			kids[i] = y
			x.Kids = kids
			return x, true
		}
	}
	return x, false
}

func TestP7_3(t *testing.T) {
	l := coreEnv()
	r := chance(7)
	ended := 0
	for range 3000 {
		x := app(lam(fin(2), coreTerm(r, 5, 3)), coreTerm(r, 4, 2))
		got, left, e := norm.Norm(l, x, 20000)
		if e != api.OK {
			continue
		}
		ended++
		if !norm.Normal(l, got) || norm.Normal(l, x) != (left == 20000) {
			t.Fatal("Normal", x)
		}
		again, left2, _ := norm.Norm(l, got, 9)
		want(t, "Norm of Norm", again, got)
		want(t, "Norm of Norm", left2, 9)
		if y, cost, steps := head.Step(l, x); steps {
			z, left3, _ := norm.Norm(l, y, 20000-cost)
			want(t, "behind a step", z, got)
			want(t, "behind a step", left3, left)
		}
		n := r.Intn(6)
		if y, ok := stepWithin(l, x, &n); ok {
			if z, _, e := norm.Norm(l, y, 40000); e == api.OK {
				want(t, "behind a step within", z, got)
			}
		}
	}
	if ended < 1000 {
		t.Error("too few terms ended", ended)
	}
}

func TestNormMemory(t *testing.T) {
	l := coreEnv()
	x := app(lam(sort(1, 1), pair(v(0), v(0))), con(2, lv(1, 1), lv(0, 2)))
	p, _, _ := norm.Norm(l, x, 100)
	apart(t, "Norm", []api.Term{x, l[2].Body}, p.Kids[0], p.Kids[1])
}
