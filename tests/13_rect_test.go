package tests

import (
	"testing"

	"spandrel/api"
	"spandrel/rect"
	"spandrel/split"
	"spandrel/tele"
	"spandrel/term"
)

// rulesOf are the rules of a block that has some.
func rulesOf(t *testing.T, d api.Decl) []api.Rule {
	t.Helper()
	rules, e := split.Rules(d)
	if e != api.OK {
		t.Fatal("no rules", e)
	}
	return rules
}

func TestP13_1(t *testing.T) {
	u := []api.Level{lv(1, 2)}
	want(t, "Fill", rect.Fill(app(self(1), v(0)), 4, u, 0, 0), app(ind(4, 1, u...), v(0)))
	want(t, "Fill", rect.Fill(pi(self(0), pi(v(0), app(self(1), v(1)))), 4, u, 2, 3), pi(app(ind(4, 0, u...), v(4), v(3)), pi(v(0), app(ind(4, 1, u...), v(6), v(5), v(1)))))
	want(t, "Fill", rect.Fill(let(self(0), self(0), self(0)), 1, nil, 1, 0), let(app(ind(1, 0), v(0)), app(ind(1, 0), v(0)), app(ind(1, 0), v(1))))
	want(t, "Fill", rect.Fill(self(0), -1, nil, 1, 0), api.Term{})
	want(t, "Member", rect.Member(nat(), 0), sort())
	want(t, "Member", rect.Member(list(), 0), pi(sort(1, 0), sort(1, 0)))
	want(t, "Member", rect.Member(vec(), 0), pis(sort(1, 0), ind(0, 0), sort(1, 0)))
	want(t, "Ctor", rect.Ctor(nat(), 3, 1), pi(ind(3, 0), ind(3, 0)))
	u1 := lv(1, 0)
	want(t, "Ctor", rect.Ctor(list(), 1, 0), pi(sort(1, 0), app(ind(1, 0, u1), v(0))))
	want(t, "Ctor", rect.Ctor(list(), 1, 1), pis(sort(1, 0), v(0), app(ind(1, 0, u1), v(1)), app(ind(1, 0, u1), v(2))))
	for i, x := range []api.Term{
		rect.Member(nat(), 1), rect.Member(nat(), -1), rect.Member(axiom(0, sort()), 0), rect.Member(api.Decl{}, 0),
		rect.Ctor(nat(), 0, 2), rect.Ctor(nat(), 0, -1), rect.Ctor(nat(), -1, 0), rect.Ctor(axiom(0, sort()), 0, 0),
	} {
		if !same(x, api.Term{}) {
			t.Error("what there is not", i)
		}
	}
}

func TestP13_2(t *testing.T) {
	n, u := ind(0, 0), lv(1, 0)
	natRow := row(pi(n, sort(1, 0)), app(v(0), ctor(0, 0)), pis(n, app(v(2), v(0)), app(v(3), app(ctor(0, 1), v(1)))))
	want(t, "Row", rect.Row(nat(), rulesOf(t, nat()), 0), natRow)
	want(t, "Rec", rect.Rec(nat(), rulesOf(t, nat()), 0, 0), pis(append(natRow, n, app(v(3), v(0)))...))
	vecAt := func(x ...api.Term) api.Term { return app(ind(4, 0, u), x...) }
	succ := func(x api.Term) api.Term { return app(ctor(0, 1), x) }
	vecRow := row(
		pis(n, vecAt(v(1), v(0)), sort(2, 0)),
		app(v(0), ctor(0, 0), app(ctor(4, 0, u), v(1))),
		pis(n, v(3), vecAt(v(4), v(1)), app(v(4), v(2), v(0)), app(v(5), succ(v(3)), app(ctor(4, 1, u), v(6), v(3), v(2), v(1)))))
	want(t, "Row", rect.Row(vec(), rulesOf(t, vec()), 4), vecRow)
	want(t, "Rec", rect.Rec(vec(), rulesOf(t, vec()), 4, 0), pis(sort(1, 0), vecRow[0], vecRow[1], vecRow[2], n, vecAt(v(4), v(0)), app(v(4), v(1), v(0))))
	trees := blocks()[4]
	u2 := lv(2, 0)
	w := func(a, b api.Term) api.Term { return app(ind(5, 0, u, u2), a, b) }
	want(t, "Row", rect.Row(trees, rulesOf(t, trees), 5), row(
		pi(w(v(1), v(0)), sort(3, 0)),
		pis(v(2), pi(app(v(2), v(0)), w(v(4), v(3))), pi(app(v(3), v(1)), app(v(3), app(v(1), v(0)))), app(v(3), app(ctor(5, 0, u, u2), v(5), v(4), v(2), v(1))))))
	both := blocks()[7]
	b := func(m int) api.Term { return ind(2, m) }
	want(t, "Row", rect.Row(both, rulesOf(t, both), 2), row(
		pi(b(0), sort(1, 0)), pi(b(1), sort(1, 0)),
		app(v(1), ctor(2, 0)),
		pis(b(1), pi(n, b(0)), app(v(3), v(1)), pi(n, app(v(6), app(v(2), v(0)))), app(v(6), app(ctor(2, 1), v(3), v(2)))),
		pis(b(0), n, b(1), app(v(6), v(2)), app(v(6), v(1)), app(v(7), app(ctor(2, 2), v(4), v(3), v(2))))))
	want(t, "Rec", rect.Rec(both, rulesOf(t, both), 2, 1), pis(append(rect.Row(both, rulesOf(t, both), 2), b(1), app(v(4), v(0)))...))
	empty := block(0, nil, lv(), members(nil))
	want(t, "Row", rect.Row(empty, nil, 0), row(pi(n, sort(1, 0))))
	rules := rulesOf(t, nat())
	other := rulesOf(t, list())
	for i, l := range [][]api.Term{
		rect.Row(nat(), rules, -1), rect.Row(nat(), rules[:1], 0), rect.Row(nat(), nil, 0), rect.Row(axiom(0, n), nil, 0), rect.Row(nat(), other, 0), rect.Row(api.Decl{}, nil, 0),
		rect.Row(block(0, nil, lv(), members(nil), ct(0, n)), rules[:1], 0),
	} {
		if len(l) != 0 {
			t.Error("no row", i)
		}
	}
	for i, x := range []api.Term{rect.Rec(nat(), rules, 0, 1), rect.Rec(nat(), rules, 0, -1), rect.Rec(nat(), rules, -1, 0), rect.Rec(nat(), nil, 0, 0), rect.Rec(axiom(0, n), nil, 0, 0)} {
		if !same(x, api.Term{}) {
			t.Error("no recursor", i)
		}
	}
}

func TestP13_3(t *testing.T) {
	n, u := ind(0, 0), []api.Level{lv(1, 3)}
	rules := rulesOf(t, nat())
	r, x := row(v(7), v(8), v(9)), v(5)
	want(t, "Iota", rect.Iota(nat(), rules, 0, 0, u, nil, r, nil), v(8))
	want(t, "Iota", rect.Iota(nat(), rules, 0, 1, u, nil, r, row(x)), app(v(9), x, app(rec(0, 0, u...), v(7), v(8), v(9), x)))
	trees := blocks()[4]
	u3 := []api.Level{lv(0, 1), lv(1, 0), lv(2, 5)}
	params, a, f := row(con(1), con(2)), v(4), v(6)
	want(t, "Iota", rect.Iota(trees, rulesOf(t, trees), 5, 0, u3, params, row(v(1), v(2)), row(a, f)),
		app(v(2), a, f, lam(app(con(2), a), app(rec(5, 0, u3...), con(1), con(2), v(2), v(3), app(v(7), v(0))))))
	ftree := lam(app(con(2), v(4)), app(v(9), v(0)))
	want(t, "Iota", rect.Iota(trees, rulesOf(t, trees), 5, 0, u3, params, row(v(1), v(2)), row(a, ftree)).Kids[1],
		lam(app(con(2), a), app(rec(5, 0, u3...), con(1), con(2), v(2), v(3), app(lam(app(con(2), v(5)), app(v(10), v(0))), v(0)))))
	two := lv(0, 2)
	vecArgs := row(v(3), v(4), v(5))
	want(t, "Iota", rect.Iota(vec(), rulesOf(t, vec()), 4, 1, []api.Level{two, two}, row(n), row(v(0), v(1), v(2)), vecArgs),
		app(v(2), v(3), v(4), v(5), app(rec(4, 0, two, two), n, v(0), v(1), v(2), v(3), v(5))))
	for i, bad := range []api.Term{
		rect.Iota(nat(), rules, 0, 2, u, nil, r, nil), rect.Iota(nat(), rules, 0, -1, u, nil, r, nil), rect.Iota(nat(), rules, -1, 0, u, nil, r, nil),
		rect.Iota(nat(), rules, 0, 0, nil, nil, r, nil), rect.Iota(nat(), rules, 0, 0, u, row(x), r, nil), rect.Iota(nat(), rules, 0, 0, u, nil, r[:2], nil), rect.Iota(nat(), rules, 0, 0, u, nil, r, row(x)),
		rect.Iota(nat(), rules, 0, 1, u, nil, r, nil), rect.Iota(nat(), rules[:1], 0, 0, u, nil, r, nil), rect.Iota(axiom(0, n), nil, 0, 0, u, nil, nil, nil),
	} {
		if !same(bad, api.Term{}) {
			t.Error("no step", i)
		}
	}
}

func TestP13_4(t *testing.T) {
	for i, d := range blocks() {
		rules := rulesOf(t, d)
		var all []api.Term
		for m := range d.Members {
			all = append(all, rect.Member(d, m), rect.Rec(d, rules, 9, m))
		}
		for c := range d.Ctors {
			all = append(all, rect.Ctor(d, 9, c))
		}
		for _, x := range all {
			if split.Self(x) || term.Free(x, 0, 1000) || !term.Right(x) {
				t.Error("a KSelf, or a variable", i)
			}
		}
		r := rect.Row(d, rules, 9)
		want(t, "Row", len(r), len(d.Members)+len(d.Ctors))
		for m := range d.Members {
			l, _, ok := tele.Open(rect.Rec(d, rules, 9, m), len(d.Params)+len(r))
			want(t, "Rec", ok, true)
			want(t, "Rec", l[len(d.Params):], r)
		}
		want(t, "the block", d, blocks()[i])
		apart(t, "Row", d.Params, r...)
	}
}
