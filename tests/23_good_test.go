package tests

import (
	"testing"

	"spandrel/api"
	"spandrel/cenv"
	"spandrel/codes"
	"spandrel/good"
)

func TestP23_1(t *testing.T) {
	trees := blocks()[4]
	own := []api.Level{lv(1, 0), lv(2, 0)}
	want(t, "Tree", good.Tree(trees, 7, 3), app(con(10, own...), v(4), v(3)))
	want(t, "Place", good.Place(trees, 7, v(9), 3), app(con(9, own...), v(4), v(3), v(9)))
	want(t, "Tree", good.Tree(nat(), 0, 3), con(3))

	r, n := mixed(), con(50)
	d := block(0, row(sort()), lv(), members(nil, nil), make([]api.Ctor, 3)...)
	x, y := v(20), v(30)
	a, b := fst(x), snd(x)
	at := func(num, far int) api.Term { return app(con(num), v(far)) }
	up := func(x api.Term) api.Term { return lift(x, 1) }
	want(t, "Row", good.Row(d, r, 7, x, 5), sigma(pis(app(n, a), app(n, fst(v(21)), v(0)), at(10, 7)), at(10, 6)))
	want(t, "At", good.At(r, 0), pair(elem(0, 2), pair(v(1), v(0))))
	want(t, "At", good.At(r, 1), pair(elem(1, 2), elem(0, 1)))
	want(t, "Want", good.Want(d, r, x, 5), pair(elem(1, 2), pair(b, v(5))))
	want(t, "Wants", good.Wants(d, r, 0, x, 5), pair(elem(0, 2), pair(fst(v(22)), pair(v(7), v(0)))))
	want(t, "Wants", good.Wants(d, r, 1, x, 5), pair(elem(1, 2), app(b, a, v(5))))
	h := v(11)
	want(t, "Kids", good.Kids(d, r, x, h, 5), sigma(
		pis(app(n, a), app(n, fst(v(21)), v(0)), app(v(13), pair(elem(0, 2), pair(v(1), v(0))), pair(elem(0, 2), pair(fst(v(22)), pair(v(7), v(0)))))),
		up(app(h, pair(elem(1, 2), elem(0, 1)), pair(elem(1, 2), app(b, a, v(5)))))))
	place := func(x api.Term, far int) api.Term { return app(con(9), v(far), x) }
	xx := lift(x, 3)
	want(t, "Table", good.Table(d, r, 7, 2, x, y, 5), lam(place(pair(elem(2, 3), x), 5), app(cas(
		lam(fin(2), pi(cas(lam(fin(2), sort()), v(0), sigma(app(n, fst(lift(x, 2))), app(n, fst(xx), v(0))), fin(1)), at(10, 8))),
		fst(v(0)),
		lam(sigma(app(n, fst(lift(x, 1))), app(n, fst(lift(x, 2)), v(0))), app(fst(lift(y, 2)), fst(v(0)), snd(v(0)))),
		lam(fin(1), snd(lift(y, 2)))), snd(v(0)))))
	none := api.Rule{Member: 1, Args: []api.Arg{plain(n)}, Index: row(v(0))}
	want(t, "Row", good.Row(d, none, 7, x, 5), fin(1))
	want(t, "Kids", good.Kids(d, none, x, h, 5), fin(1))
	want(t, "Want", good.Want(d, none, x, 5), pair(elem(1, 2), x))
	want(t, "Table", good.Table(d, none, 7, 0, x, y, 5), lam(place(pair(elem(0, 3), x), 5), cas(lam(fin(0), at(10, 7)), v(0))))
	for _, j := range []int{-1, 2, 9} {
		want(t, "no recursive argument", good.At(r, j), api.Term{})
		want(t, "no recursive argument", good.Wants(d, r, j, x, 5), api.Term{})
	}
	want(t, "the rule", r, mixed())
	apart(t, "Table", row(x, y), good.Table(d, r, 7, 2, x, y, 5))
}

// lift is a term lifted.
func lift(x api.Term, n int) api.Term {
	if x.Kind == api.KVar {
		x.Num += n
	}
	kids := append([]api.Term(nil), x.Kids...)
	for i := range kids {
		kids[i] = lift(kids[i], n)
	}
	x.Kids = kids
	return x
}

func TestP23_2(t *testing.T) {
	l := good.Good(nat(), readRules(nat()), 0)
	w, index := con(3), sigma(fin(1), app(con(0), v(0)))
	shape := sigma(fin(2), app(con(1), v(0)))
	place := func(x api.Term) api.Term { return app(con(2), x) }
	held := func(x api.Term) api.Term { return pi(place(x), pi(index, sort())) }
	fun := func(x api.Term) api.Term { return pi(place(x), w) }
	zero := func(a api.Term) api.Term { return pair(elem(0, 2), a) }
	succ := func(a api.Term) api.Term { return pair(elem(1, 2), a) }
	none := func(a api.Term) api.Term { return lam(place(zero(a)), cas(lam(fin(0), w), v(0))) }
	table := func(a, y api.Term) api.Term {
		return lam(place(succ(a)), app(cas(lam(fin(1), pi(cas(lam(fin(1), sort()), v(0), fin(1)), w)), fst(v(0)), lam(fin(1), lift(y, 2))), snd(v(0))))
	}
	at := pair(elem(0, 1), elem(0, 1))
	motive := lam(fin(2), pis(app(con(1), v(0)), fun(pair(v(1), v(0))), held(pair(v(2), v(1))), index, sort()))
	first := lams(app(con(1), elem(0, 2)), fun(zero(v(0))), held(zero(v(1))), index,
		sigma(idOf(fun(zero(v(3))), none(v(3)), v(2)), idOf(index, at, v(1))))
	second := lams(app(con(1), elem(1, 2)), fun(succ(v(0))), held(succ(v(1))), index,
		sigma(w, sigma(idOf(fun(succ(v(4))), table(v(4), v(0)), v(3)), sigma(idOf(index, at, v(2)), app(v(4), at, at)))))
	step := lams(shape, fun(v(0)), held(v(1)), app(cas(motive, fst(v(2)), first, second), snd(v(2)), v(1), v(0)))
	want(t, "numbers", l, []api.Core{{Type: pis(w, index, sort()), Has: true, Body: lam(w, treeRec(shape, place(v(0)), lam(w, pi(index, sort())), step, v(0)))}})
	for i, c := range [][]api.Core{good.Good(nat(), nil, 0), good.Good(nat(), readRules(nat())[:1], 0), good.Good(axiom(0, sort()), nil, 0), good.Good(api.Decl{}, nil, 0), good.Good(nat(), make([]api.Rule, 3), 0)} {
		if len(c) != 0 {
			t.Error("none", i)
		}
	}
	if l := good.Good(nat(), make([]api.Rule, 2), -5); len(l) != 1 {
		t.Error("rules that are none of its own")
	}
	for i, d := range blocks() {
		l := good.Good(d, readRules(d), 3)
		if len(l) != 1 || l[0].Levels != d.Levels || !l[0].Has {
			t.Fatal("the constant", i)
		}
		apart(t, "Good", d.Params, l[0].Type, l[0].Body)
		want(t, "the block", d, blocks()[i])
	}
}

func TestP23_3(t *testing.T) {
	for i, d := range alone() {
		l := append(codes.Codes(d, readRules(d), 0), good.Good(d, readRules(d), 0)...)
		if _, at, e := cenv.All(l, 1000000); e != api.OK {
			t.Error("does not check", i, at, e)
		}
	}
}
