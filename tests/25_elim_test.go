package tests

import (
	"testing"

	"spandrel/api"
	"spandrel/cenv"
	"spandrel/elim"
	"spandrel/former"
	"spandrel/infer"
	"spandrel/norm"
	"spandrel/rect"
	"spandrel/tele"
)

func TestP25_1(t *testing.T) {
	u := sort(1, 0)
	i, x := v(8), v(9)
	e := elem(0, 1)
	index := func(num int) api.Term { return app(con(num), v(0)) }
	goodAt := func(num int, at api.Term) api.Term { return sigma(con(num+3), app(con(num+4), v(0), at)) }
	want(t, "numbers", elim.Mot(nat(), 0, i, x, 5), app(
		cas(lam(fin(1), pis(index(0), goodAt(0, pair(v(2), v(1))), u)), fst(i),
			lams(app(con(0), e), goodAt(0, pair(e, v(1))), app(cas(lam(fin(1), pi(goodAt(0, pair(e, v(1))), u)), v(1), lam(goodAt(0, pair(e, e)), app(v(7), v(0)))), v(0)))),
		snd(i), x))
	d := block(1, row(sort(1, 0)), lv(1, 0), members(row(v(0), v(1)), nil))
	own := lv(1, 0)
	at := func(num, far int, args ...api.Term) api.Term {
		return app(con(num, own), append(row(v(far)), args...)...)
	}
	goodIn := func(far int, index api.Term) api.Term { return sigma(at(10, far), at(11, far+1, v(0), index)) }
	first, second := elem(0, 2), elem(1, 2)
	want(t, "members with indices and without", elim.Mot(d, 7, i, x, 5), app(
		cas(lam(fin(2), pis(at(7, 6, v(0)), goodIn(7, pair(v(2), v(1))), sort(2, 0))), fst(i),
			lams(at(7, 5, first), goodIn(6, pair(first, v(1))), app(v(6), fst(v(1)), snd(v(1)), v(0))),
			lams(at(7, 5, second), goodIn(6, pair(second, v(1))), app(cas(lam(fin(1), pi(goodIn(8, pair(second, v(1))), sort(2, 0))), v(1), lam(goodIn(7, pair(second, e)), app(v(6), v(0)))), v(0)))),
		snd(i), x))
	apart(t, "Mot", row(i, x), elim.Mot(d, 7, i, x, 5))
	if y := elim.Mot(api.Decl{}, -3, i, x, 2); y.Kind != api.KApp {
		t.Error("no block", y)
	}
}

// natWalk lays the walk of numbers as the chapter says it.
type natWalk struct{ w, index, at, unit api.Term }

func (n natWalk) place(x api.Term) api.Term           { return app(con(2), x) }
func (n natWalk) fun(x api.Term) api.Term             { return pi(n.place(x), n.w) }
func (n natWalk) mot(i, x api.Term, far int) api.Term { return elim.Mot(nat(), 0, i, x, far) }

func (n natWalk) over(far int) api.Term {
	return lam(n.w, pis(n.index, app(con(4), v(1), v(0)), n.mot(v(1), pair(v(2), v(0)), far+3)))
}

func (n natWalk) held(x, f api.Term, far int) api.Term {
	return pi(n.place(x), app(n.over(far+1), app(raised(f, 1), v(0))))
}

// four are the four of a closed shape, or one of variables, and their end.
func (n natWalk) four(x api.Term, far int) (types []api.Term, end api.Term) {
	types = row(n.fun(x), n.held(raised(x, 1), v(0), far+1), n.index, app(con(4), sup(raised(x, 3), v(2)), v(0)))
	return types, n.mot(v(1), pair(sup(raised(x, 4), v(3)), v(0)), far+4)
}

func (n natWalk) fourPis(x api.Term, far int) api.Term {
	types, end := n.four(x, far)
	return pis(append(types, end)...)
}

// raised is a term whose outer variables are lifted.
func raised(x api.Term, by int) api.Term { return tele.Lifts(row(x), by, 0)[0] }

func (n natWalk) same(from, to api.Term) api.Term { return idOf(n.index, from, to) }

// zero is the inner one of the constructor 0, at 8.
func (n natWalk) zero() api.Term {
	shape := pair(elem(0, 2), n.unit)
	a, table := n.fun(shape), lam(n.place(shape), cas(lam(fin(0), n.w), v(0)))
	motive := lams(a, idOf(a, table, v(0)), pis(n.held(shape, v(1), 14), n.index, n.same(n.at, v(0)), n.mot(v(1), pair(sup(shape, v(4)), pair(v(3), v(0))), 17)))
	inner := jay(n.index, n.at, lams(n.index, n.same(n.at, v(0)), n.mot(v(1), pair(sup(shape, table), pair(refl(), v(0))), 17)), v(13), v(1), v(0))
	base := lams(n.held(shape, table, 12), n.index, n.same(n.at, v(0)), inner)
	types, _ := n.four(shape, 8)
	return lams(append(types, app(jay(a, table, motive, base, v(3), fst(v(0))), v(2), v(1), snd(v(0))))...)
}

// succ is the inner one of the constructor 1, at 8.
func (n natWalk) succ() api.Term {
	shape := pair(elem(1, 2), n.unit)
	a := n.fun(shape)
	table := func(y api.Term) api.Term {
		tuples := cas(lam(fin(1), sort()), v(0), fin(1))
		return lam(n.place(shape), app(cas(lam(fin(1), pi(tuples, n.w)), fst(v(0)), lam(fin(1), raised(y, 2))), snd(v(0))))
	}
	kids := func(f api.Term) api.Term {
		return app(lam(n.place(shape), app(con(4), app(raised(f, 1), v(0)))), n.at, n.at)
	}
	motive := lams(a, idOf(a, table(fst(v(1))), v(0)), pis(n.held(shape, v(1), 14), n.index, n.same(n.at, v(0)), kids(v(4)),
		n.mot(v(2), pair(sup(shape, v(5)), pair(fst(v(6)), pair(v(4), pair(v(1), v(0))))), 18)))
	method := app(v(13), pair(fst(v(4)), v(0)), app(v(3), n.at, n.at, v(0)))
	inner := jay(n.index, n.at, lams(n.index, n.same(n.at, v(0)), n.mot(v(1), pair(sup(shape, table(fst(v(6)))), pair(fst(v(6)), pair(refl(), pair(v(0), v(2))))), 18)), method, v(2), v(1))
	base := lams(n.held(shape, table(fst(v(0))), 12), n.index, n.same(n.at, v(0)), kids(table(fst(v(3)))), inner)
	types, _ := n.four(shape, 8)
	last := snd(snd(v(0)))
	return lams(append(types, app(jay(a, table(fst(v(0))), motive, base, v(3), fst(snd(v(0)))), v(2), v(1), fst(last), snd(last)))...)
}

// whole is the type of the walk, and its body.
func (n natWalk) whole() api.Core {
	shape := sigma(fin(2), app(con(1), v(0)))
	branch := func(c int, inner api.Term) api.Term {
		return lam(app(con(1), elem(c, 2)), cas(lam(fin(1), n.fourPis(pair(elem(c, 2), v(0)), 9)), v(0), inner))
	}
	motive := lam(fin(2), pi(app(con(1), v(0)), n.fourPis(pair(v(1), v(0)), 9)))
	choice := cas(motive, fst(v(2)), branch(0, n.zero()), branch(1, n.succ()))
	step := lams(shape, n.fun(v(0)), n.held(v(1), v(0), 6), app(choice, snd(v(2)), v(1), v(0)))
	m := con(5)
	motives := row(pi(m, sort(1, 0)), app(v(0), con(6)), pis(m, app(v(2), v(0)), app(v(3), app(con(7), v(1)))))
	typ := pis(append(motives, n.w, n.index, app(con(4), v(1), v(0)), n.mot(v(1), pair(v(2), v(0)), 6))...)
	return api.Core{Levels: 1, Type: typ, Has: true, Body: lams(append(motives, n.w, treeRec(shape, n.place(v(0)), n.over(4), step, v(0)))...)}
}

func TestP25_2(t *testing.T) {
	l := elim.Elim(nat(), readRules(nat()), 0)
	unit := elem(0, 1)
	w := natWalk{con(3), sigma(fin(1), app(con(0), v(0))), pair(unit, unit), unit}
	want(t, "the walk of numbers", l[0], w.whole())
	typ := former.Named(nat(), 0, rect.Rec(nat(), readRules(nat()), 0, 0))
	all, _, _ := tele.Open(typ, 4)
	want(t, "the recursor of numbers", l[1:], []api.Core{{Levels: 1, Type: typ, Has: true,
		Body: lams(append(all, app(con(8, lv(1, 0)), v(3), v(2), v(1), fst(v(0)), pair(unit, unit), snd(v(0))))...)}})
	two := blocks()[3]
	l = elim.Elim(two, readRules(two), 50)
	typ = former.Named(two, 50, rect.Rec(two, readRules(two), 0, 1))
	all, _, _ = tele.Open(typ, 7)
	want(t, "a recursor at an index", l[2].Body, lams(append(all, app(con(60, lv(1, 0)), v(6), v(5), v(4), v(3), v(2), fst(v(0)), pair(elem(1, 2), v(1)), snd(v(0))))...))
	for i, c := range [][]api.Core{
		elim.Elim(nat(), nil, 0), elim.Elim(nat(), readRules(nat())[:1], 0), elim.Elim(axiom(0, sort()), nil, 0), elim.Elim(api.Decl{}, nil, 0), elim.Elim(block(0, nil, lv(), nil), nil, 0), elim.Elim(block(101, nil, lv(), members(nil)), nil, 0), elim.Elim(block(-1, nil, lv(), members(nil)), nil, 0),
	} {
		if len(c) != 0 {
			t.Error("none", i)
		}
	}
	for i, d := range blocks() {
		l := elim.Elim(d, readRules(d), 3)
		if len(l) != 1+len(d.Members) {
			t.Fatal("the walk, and recursors", i)
		}
		for _, c := range l {
			if c.Levels != d.Levels+1 || !c.Has || holdsOwn(c.Type) || holdsOwn(c.Body) {
				t.Error("levels, bodies, names", i)
			}
			apart(t, "Elim", d.Params, c.Type, c.Body)
		}
		want(t, "the block", d, blocks()[i])
	}
}

// eliminated are all constants of a block that names no other one, but for the proofs.
func eliminated(d api.Decl) []api.Core {
	return append(formed(d), elim.Elim(d, readRules(d), 0)...)
}

func TestP25_3(t *testing.T) {
	for i, d := range alone() {
		if _, at, e := cenv.All(eliminated(d), 10000000); e != api.OK {
			t.Error("does not check", i, at, e)
		}
	}
	l := eliminated(nat())
	n := con(5)
	succ := func(x api.Term) api.Term { return app(con(7), x) }
	twice := func(x api.Term) api.Term {
		return app(con(9, lv()), lam(n, n), con(6), lams(n, n, succ(succ(v(0)))), x)
	}
	x, y := twice(succ(succ(con(6)))), succ(succ(succ(succ(con(6)))))
	if _, e := infer.Check(l, 0, nil, refl(), idOf(n, x, y), 10000000); e != api.OK {
		t.Error("twice two", e)
	}
	nx, _, _ := norm.Norm(l, x, 10000000)
	ny, _, _ := norm.Norm(l, y, 10000000)
	want(t, "twice two", nx, ny)
}
