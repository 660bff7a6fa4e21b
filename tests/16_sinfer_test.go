package tests

import (
	"testing"

	"spandrel/api"
	"spandrel/rect"
	"spandrel/shead"
	"spandrel/sinfer"
	"spandrel/split"
	"spandrel/term"
)

func sinferCases() []inferred {
	n, u, su := ind(0, 0), lv(1, 0), sort(1, 0)
	none := api.Term{}
	ctx := row(su, v(0), pi(v(1), v(2)))
	id := lams(su, v(0), v(0))
	natMotive := lam(n, n)
	natRec := rect.Rec(nat(), readRules(nat()), 0, 0)
	return []inferred{
		{nil, id, pis(su, v(0), v(1)), api.OK, 5}, {nil, app(id, sort()), none, api.ErrType, 8},
		{ctx, v(0), pi(v(2), v(3)), api.OK, 1}, {ctx, v(1), v(2), api.OK, 1}, {ctx, v(2), su, api.OK, 1},
		{ctx, app(v(0), v(1)), v(2), api.OK, 5}, {ctx, app(v(1), v(1)), none, api.ErrFunc, 2}, {ctx, app(v(0), v(2)), none, api.ErrType, 4},
		{nil, sort(0, 3), sort(0, 4), api.OK, 1}, {nil, sort(0, 1000), none, api.ErrLevel, 1}, {nil, su, sort(1, 1), api.OK, 1},
		{nil, pi(su, v(0)), sort(1, 1), api.OK, 3}, {nil, pi(n, n), sort(), api.OK, 1 + 2 + 2}, {nil, pi(ctor(0, 0), n), none, api.ErrSort, 3},
		{nil, con(3), sort(0, 1), api.OK, 2}, {nil, con(2, u), su, api.OK, 2}, {nil, con(2, lv(1, 1000)), sort(1, 1000), api.OK, 2},
		{nil, ctor(0, 0), n, api.OK, 2}, {nil, ctor(0, 1), pi(n, n), api.OK, 4}, {nil, ind(1, 0, u), pi(su, su), api.OK, 4},
		{nil, ind(1, 0, lv(1, 1000)), pi(sort(1, 1000), sort(1, 1000)), api.OK, 4},
		{nil, con(5, lv(1, 999)), sort(1, 1000), api.OK, 2}, {nil, con(5, lv(1, 1000)), none, api.ErrLevel, 2},
		{nil, rec(0, 0, u), natRec, api.OK, 1 + term.Size(natRec)}, {nil, app(rec(0, 0, lv()), natMotive), pis(app(natMotive, ctor(0, 0)), pis(n, app(natMotive, v(0)), app(natMotive, app(ctor(0, 1), v(1)))), n, app(natMotive, v(0))), api.OK, 62},
		{nil, app(ctor(0, 1), sort()), none, api.ErrType, 7},
		{nil, let(sort(0, 1), sort(), lam(v(0), v(0))), pi(sort(), sort()), api.OK, 10}, {nil, let(n, sort(), v(0)), none, api.ErrType, 5}, {nil, let(ctor(0, 0), sort(), v(0)), none, api.ErrSort, 3},
		{nil, lam(ctor(0, 0), v(0)), none, api.ErrSort, 3}, {nil, app(lam(con(3), v(0)), n), con(3), api.OK, 10}, {row(con(3)), lam(v(0), v(0)), pi(v(0), v(1)), api.OK, 4},
	}
}

// readRules are the rules of a block, if it has some.
func readRules(d api.Decl) []api.Rule {
	rules, _ := split.Rules(d)
	return rules
}

// higher are the declarations of world, and an axiom whose type is a universe above its level.
func higher() []api.Decl { return append(world(), axiom(1, sort(1, 1))) }

func TestP16_1(t *testing.T) {
	decls := higher()
	for i, c := range sinferCases() {
		typ, left, e := sinfer.Infer(decls, 1, c.ctx, c.x, 1000)
		if e != c.e || !same(typ, c.want) || e != api.OK && left != 0 {
			t.Error(i, e, typ)
		}
		if e == api.OK && left != 1000-c.cost {
			t.Error("cost", i, 1000-left)
		}
		if _, left, e := sinfer.Infer(decls, 1, c.ctx, c.x, c.cost); e != c.e || left != 0 {
			t.Error("just enough", i, e)
		}
		if typ, left, e := sinfer.Infer(decls, 1, c.ctx, c.x, c.cost-1); e != api.ErrFuel || left != 0 || !same(typ, api.Term{}) {
			t.Error("too little", i, e)
		}
	}
	for i, c := range []struct {
		n, fuel  int
		ctx      []api.Term
		x, typ   api.Term
		e        api.Errno
		checking bool
	}{
		{0, -1, nil, sort(), sort(0, 1), api.ErrArg, false}, {0, api.MaxFuel + 1, nil, sort(), sort(0, 1), api.ErrArg, false}, {0, -1, nil, v(0), sort(), api.ErrArg, false},
		{0, 9, nil, v(0), sort(), api.ErrShape, false}, {0, 9, row(sort()), v(1), sort(), api.ErrShape, false}, {0, 9, nil, self(0), sort(), api.ErrShape, false}, {0, 9, nil, fin(2), sort(), api.ErrShape, false}, {0, 9, nil, sort(1, 0), sort(), api.ErrShape, false},
		{0, 9, nil, con(0), sort(), api.ErrShape, false}, {0, 9, nil, sort(), v(0), api.ErrShape, true}, {0, 9, nil, sort(), refl(), api.ErrShape, true}, {0, 0, nil, sort(), sort(), api.ErrFuel, false},
		{0, 9, nil, sort(), sort(), api.ErrType, true}, {0, 9, nil, sort(), sort(0, 1), api.OK, false}, {0, api.MaxFuel, nil, sort(), sort(0, 7), api.OK, false}, {-5, 9, nil, sort(), sort(0, 1), api.ErrLevel, true},
	} {
		typ, left, e := sinfer.Infer(decls, c.n, c.ctx, c.x, c.fuel)
		if !c.checking && (e != c.e || e != api.OK && (left != 0 || !same(typ, api.Term{}))) {
			t.Error("Infer", i, e)
		}
		u, left, e := sinfer.Level(decls, c.n, c.ctx, c.x, c.fuel)
		if !c.checking && (e != c.e || e != api.OK && (left != 0 || !same(u, api.Level{}))) {
			t.Error("Level", i, e)
		}
		left, e = sinfer.Check(decls, c.n, c.ctx, c.x, c.typ, c.fuel)
		if c.n >= 0 && (e != c.e || e != api.OK && left != 0) {
			t.Error("Check", i, e)
		}
	}
	left, e := sinfer.Check(decls, 0, nil, double(number(1)), app(lam(sort(), v(0)), ind(0, 0)), 1000)
	if e != api.OK || left <= 0 {
		t.Error("Check", e)
	}
	u, left, e := sinfer.Level(decls, 1, nil, pi(sort(1, 0), sort(0, 2)), 10)
	if !same(u, lv(0, 3, 1, 1)) || left != 7 || e != api.OK {
		t.Error("Level", u, left, e)
	}
	if _, _, e := sinfer.Level(decls, 1, nil, ctor(0, 0), 10); e != api.ErrSort {
		t.Error("Level", e)
	}
	long := block(0, nil, lv(), members(nil), ct(0, pis(append(times(11, sort()), self(0))...)))
	if _, _, e := sinfer.Infer([]api.Decl{long}, 0, nil, rec(0, 0, lv()), 1000); e != api.ErrLong {
		t.Error("split's error", e)
	}
}

func TestP16_2(t *testing.T) {
	decls := higher()
	for i, c := range sinferCases() {
		typ, left, e := sinfer.Infer(decls, 1, c.ctx, c.x, 1000)
		_, left2, e2 := sinfer.Infer(decls, 1, c.ctx, c.x, 1500)
		if e2 != e || e == api.OK && left2 != left+500 {
			t.Error("more fuel", i)
		}
		behind := append(append([]api.Term(nil), c.ctx...), ind(0, 0))
		typ3, left3, e3 := sinfer.Infer(decls, 1, behind, term.Lift(c.x, 1, 0), 1000)
		if e3 != e || left3 != left || e == api.OK && !same(typ3, term.Lift(typ, 1, 0)) {
			t.Error("a type behind", i, e3)
		}
		if e != api.OK {
			continue
		}
		if _, e := sinfer.Check(decls, 1, c.ctx, c.x, typ, 2000); e != api.OK {
			t.Error("of its own type", i, e)
		}
		if _, e := sinfer.Check(decls, 1, c.ctx, c.x, pi(sort(), sort()), 2000); e != api.ErrType && !same(typ, pi(sort(), sort())) {
			t.Error("of another type", i, e)
		}
	}
	x := plus(double(number(2)), double(number(1)))
	for steps := true; steps; x, steps = shead.Step(decls, x) {
		if _, e := sinfer.Check(decls, 0, nil, x, ind(0, 0), 100000); e != api.OK {
			t.Fatal("behind a step", x, e)
		}
	}
	over := append([]api.Decl{nat(), list()}, blocks()[2:]...)
	for num, d := range over {
		for m := range d.Members {
			for _, typ := range []api.Term{rect.Member(d, m), rect.Rec(d, readRules(d), num, m)} {
				if _, _, e := sinfer.Level(over[:num+1], d.Levels+1, nil, typ, 1000000); e != api.OK {
					t.Error("a type that is none", num, e)
				}
			}
		}
		for c := range d.Ctors {
			if _, _, e := sinfer.Level(over[:num+1], d.Levels, nil, rect.Ctor(d, num, c), 1000000); e != api.OK {
				t.Error("a constructor's type that is none", num, e)
			}
		}
	}
}
