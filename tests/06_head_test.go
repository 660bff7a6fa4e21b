package tests

import (
	"testing"

	"spandrel/api"
	"spandrel/head"
	"spandrel/term"
)

// coreEnv are constants: a type, a body of 0 levels (the constant 1: Fin 2), a body of 2 levels, a function, one that never ends.
func coreEnv() []api.Core {
	return []api.Core{
		{Type: sort()},
		{Type: sort(), Has: true, Body: fin(2)},
		{Levels: 2, Type: sort(1, 1), Has: true, Body: lam(sort(1, 0), lam(sort(2, 5), v(0)))},
		{Type: pi(fin(2), fin(2)), Has: true, Body: lam(fin(2), cas(lam(fin(2), fin(2)), v(0), elem(1, 2), elem(0, 2)))},
		{Type: fin(0), Has: true, Body: con(4)},
	}
}

// headCase is a term, what it is at its head, and what that costs.
type headCase struct {
	x, want api.Term
	cost    int
}

func headCases() []headCase {
	id := lam(fin(2), v(0))
	a, b, p, s := con(0), fin(7), v(4), v(5)
	branch := app(v(1), v(0))
	f := v(6)
	h := lam(app(v(0), a), treeRec(fin(3), app(v(2), v(0)), v(5), v(6), app(v(7), v(0))))
	return []headCase{
		{app(id, elem(1, 2)), elem(1, 2), 1},
		{cas(a, app(id, elem(1, 2)), b, pair(v(1), v(2))), pair(v(1), v(2)), 4},
		{app(id, a, b), app(a, b), 1},
		{app(lam(b, pair(v(0), v(0))), app(v(3), v(4))), pair(app(v(3), v(4)), app(v(3), v(4))), 7},
		{app(lam(b, a), app(v(3), v(4))), a, 1},
		{let(a, pair(a, b), app(v(0), v(1))), app(pair(a, b), v(0)), 5},
		{con(0), con(0), 0}, {con(1), fin(2), 1}, {con(9), con(9), 0}, {con(-1), con(-1), 0}, {con(1, lv()), con(1, lv()), 0},
		{app(con(2, lv(0, 3), lv(1, 1)), a), lam(sort(1, 6), v(0)), 8},
		{fst(pair(a, b)), a, 1}, {snd(pair(a, b)), b, 1}, {snd(pair(a, app(id, b))), b, 6},
		{fst(app(id, v(8))), fst(v(8)), 1}, {snd(v(8)), snd(v(8)), 0},
		{treeRec(fin(3), branch, p, s, sup(a, f)), app(s, a, f, h), 20},
		{treeRec(fin(3), branch, p, s, app(id, v(0))), treeRec(fin(3), branch, p, s, v(0)), 1},
		{jay(a, b, p, app(v(1), v(2)), s, refl()), app(v(1), v(2)), 3},
		{jay(a, b, p, a, s, v(0)), jay(a, b, p, a, s, v(0)), 0},
		{cas(a, elem(1, 9), b, fin(8)), fin(8), 1}, {cas(a, elem(2, 9), b, fin(8)), cas(a, elem(2, 9), b, fin(8)), 0},
		{cas(a, elem(-1, 9), b), cas(a, elem(-1, 9), b), 0}, {cas(a, app(id, v(0)), b), cas(a, v(0), b), 1},
		{lam(a, app(id, a)), lam(a, app(id, a)), 0}, {pair(app(id, a), b), pair(app(id, a), b), 0}, {v(3), v(3), 0},
		{app(app(id, id), con(3), elem(0, 2)), app(elem(0, 2), elem(0, 2)), 0},
	}
}

func TestP6_1(t *testing.T) {
	l := coreEnv()
	cases := headCases()
	cases = cases[:len(cases)-1]
	cases = append(cases, headCase{app(con(3), elem(0, 2)), elem(1, 2), 9 + 7 + 1})
	for _, c := range cases {
		got, left, e := head.Whnf(l, c.x, 100)
		want(t, "Whnf", got, c.want)
		want(t, "Whnf", left, 100-c.cost)
		want(t, "Whnf", e, api.OK)
		if _, left, e := head.Whnf(l, c.x, c.cost); left != 0 || e != api.OK {
			t.Error("just enough", c.x, left, e)
		}
		if got, left, e := head.Whnf(l, c.x, c.cost-1); c.cost > 0 && (e != api.ErrFuel || left != 0 || !same(got, api.Term{})) {
			t.Error("too little", c.x, left, e)
		}
	}
	for _, fuel := range []int{-1, api.MaxFuel + 1} {
		if got, left, e := head.Whnf(l, v(0), fuel); e != api.ErrArg || left != 0 || !same(got, api.Term{}) {
			t.Error("ErrArg", fuel)
		}
	}
	if _, left, e := head.Whnf(l, v(0), api.MaxFuel); left != api.MaxFuel || e != api.OK {
		t.Error("MaxFuel")
	}
	self := lam(fin(2), app(v(0), v(0)))
	for _, x := range []api.Term{con(4), app(self, self), app(lam(fin(2), app(v(0), v(0), v(0))), lam(fin(2), app(v(0), v(0), v(0))))} {
		if _, _, e := head.Whnf(l, x, 300000); e != api.ErrFuel {
			t.Error("no end", x)
		}
	}
}

func TestP6_1_Wrong(t *testing.T) {
	junk := func(x api.Term, num int) api.Term {
		x.Num = num
		return x
	}
	none := api.Term{}
	for i, c := range []headCase{
		{node(api.KApp), node(api.KApp, none, none), 0},
		{node(api.KApp, v(1), v(2), v(3)), node(api.KApp, v(1), v(2)), 0},
		{junk(node(api.KApp, v(1)), 5), junk(node(api.KApp, v(1), none), 5), 0},
		{node(api.KApp, node(api.KLam)), none, 1},
		{node(api.KFst), fst(none), 0},
		{node(api.KFst, pair(v(1), v(2)), v(3)), v(1), 1},
		{node(api.KSnd, node(api.KPair, v(1))), none, 1},
		{node(api.KLet), none, 1},
		{node(api.KLet, v(0), v(1), v(0), v(9)), v(1), 1},
		{node(api.KConst, v(1)), con(0), 0},
		{node(api.KTreeRec), treeRec(none, none, none, none, none), 0},
		{node(api.KJ, v(1)), jay(v(1), none, none, none, none, none), 0},
		{api.Term{Kind: api.KCase, At: 2, Kids: row(v(0), v(1), v(2), elem(0, 2), v(3))}, api.Term{Kind: api.KCase, At: 2, Kids: row(v(0), v(1), v(2), elem(0, 2), v(3))}, 0},
		{api.Term{Kind: api.KCase, At: -2}, api.Term{Kind: api.KCase, At: -2}, 0},
		{api.Term{Kind: api.KCase, At: -1, Kids: row(con(1))}, api.Term{Kind: api.KCase, At: -1, Kids: row(fin(2))}, 1},
		{none, none, 0},
		{api.Term{Kind: 77, Kids: row(con(1))}, api.Term{Kind: 77, Kids: row(con(1))}, 0},
	} {
		got, left, e := head.Whnf(coreEnv(), c.x, 50)
		if !same(got, c.want) || left != 50-c.cost || e != api.OK {
			t.Error(i, got, left, e)
		}
	}
}

func TestP6_2(t *testing.T) {
	l := coreEnv()
	id := lam(fin(2), v(0))
	for i, c := range []struct {
		x, want api.Term
		cost    int
		steps   bool
	}{
		{app(fst(pair(con(0), con(1))), v(2)), app(con(0), v(2)), 1, true},
		{app(con(3), elem(0, 2)), app(l[3].Body, elem(0, 2)), 9, true},
		{fst(snd(pair(v(0), pair(v(1), v(2))))), fst(pair(v(1), v(2))), 3, true},
		{cas(v(0), app(id, elem(0, 1)), v(1)), cas(v(0), elem(0, 1), v(1)), 1, true},
		{treeRec(v(0), v(1), v(2), v(3), let(v(0), v(0), v(0))), treeRec(v(0), v(1), v(2), v(3), v(0)), 1, true},
		{lam(fin(2), con(1)), lam(fin(2), con(1)), 0, false},
		{app(v(0), con(1)), app(v(0), con(1)), 0, false},
		{node(api.KApp, v(1), v(2), v(3)), node(api.KApp, v(1), v(2), v(3)), 0, false},
	} {
		got, cost, steps := head.Step(l, c.x)
		if !same(got, c.want) || cost != c.cost || steps != c.steps {
			t.Error(i, got, cost, steps)
		}
	}
}

func TestP6_3(t *testing.T) {
	l := coreEnv()
	r := chance(6)
	for range 4000 {
		x := coreTerm(r, 6, 3)
		if r.Intn(2) == 0 {
			x = app(lam(fin(2), coreTerm(r, 5, 4)), coreTerm(r, 4, 3))
		}
		got, left, e := head.Whnf(l, x, 5000)
		if e != api.OK {
			continue
		}
		spent, y := 0, x
		for {
			next, cost, steps := head.Step(l, y)
			if !steps {
				break
			}
			y, spent = next, spent+cost
		}
		want(t, "Step again and again", y, got)
		want(t, "what it costs", spent, 5000-left)
		again, left2, _ := head.Whnf(l, got, 7)
		want(t, "at its head", again, got)
		want(t, "at its head", left2, 7)
		if _, left3, e := head.Whnf(l, x, 6000); left3 != left+1000 || e != api.OK {
			t.Fatal("more fuel", x)
		}
		if _, left3, e := head.Whnf(l, x, max(spent-1, 0)); spent > 0 && (e != api.ErrFuel || left3 != 0) {
			t.Fatal("less fuel", x)
		}
	}
}

func TestHeadMemory(t *testing.T) {
	l := coreEnv()
	x := app(lam(sort(1, 1), pair(v(0), v(0))), con(2, lv(1, 1), lv(0, 2)))
	y := app(con(2, lv(1, 1), lv(0, 2)), sort(1, 1))
	args := []api.Term{x, y, l[2].Body}
	p, _, _ := head.Whnf(l, x, 100)
	apart(t, "Whnf", args, p.Kids[0], p.Kids[1])
	q, _, _ := head.Whnf(l, y, 100)
	apart(t, "Whnf", args, q)
	s, _, _ := head.Step(l, fst(pair(x, x)))
	apart(t, "Step", args, s)
	s, _, _ = head.Step(l, lam(x, y))
	apart(t, "Step", args, s)
	if !term.Same(l[2].Body, coreEnv()[2].Body) {
		t.Error("constants")
	}
}
