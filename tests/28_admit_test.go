package tests

import (
	"slices"
	"testing"

	"spandrel/admit"
	"spandrel/api"
	"spandrel/carry"
	"spandrel/cenv"
	"spandrel/cert"
	"spandrel/codes"
	"spandrel/conv"
	"spandrel/elim"
	"spandrel/former"
	"spandrel/good"
	"spandrel/nest"
	"spandrel/sconv"
	"spandrel/senv"
	"spandrel/shead"
	"spandrel/sinfer"
)

// admitted is the environment of declarations, admitted one by one.
func admitted(t *testing.T, decls ...api.Decl) api.Env {
	t.Helper()
	var e api.Env
	for i, d := range decls {
		next, _, fault := admit.Admit(e, d, api.MaxFuel)
		if fault != api.OK {
			t.Fatal("not admitted", i, fault)
		}
		e = next
	}
	return e
}

func TestP28_1(t *testing.T) {
	e := admitted(t, world()...)
	n := ind(0, 0)
	want(t, "an axiom", admit.Core(e, axiom(2, pi(n, sort(2, 1)))), []api.Core{{Levels: 2, Type: pi(con(5), sort(2, 1))}})
	want(t, "an axiom with a body", admit.Core(e, api.Decl{Kind: api.DeclAxiom, Type: n, Body: n}), []api.Core{{Type: con(5)}})
	want(t, "a definition", admit.Core(e, def(1, n, number(1))), []api.Core{{Levels: 1, Type: con(5), Has: true, Body: app(con(7), con(6))}})
	d := vec()
	rules := carry.Rules(e.Decls, e.At, readRules(d))
	d = carry.Block(e.Decls, e.At, d)
	base := len(e.Core)
	whole := slices.Concat(codes.Codes(d, rules, base), good.Good(d, rules, base), former.Form(d, rules, base), elim.Elim(d, rules, base), cert.Cert(d, rules, base))
	want(t, "a block", admit.Core(e, vec()), whole)
	want(t, "a block", len(whole), carry.Count(d))
	for i, d := range []api.Decl{{}, {Kind: 4, Type: n}, rose(), single(n), single(pi(pi(self(0), n), self(0)))} {
		if c := admit.Core(e, d); len(c) != 0 {
			t.Error("no core", i)
		}
	}
}

func TestP28_2(t *testing.T) {
	e, left, fault := admit.Admit(api.Env{}, nat(), api.MaxFuel)
	if fault != api.OK || len(e.Decls) != 1 || len(e.Core) != 12 || !same(e.At, []int{0}) {
		t.Fatal("numbers", fault)
	}
	spent := api.MaxFuel - left
	if e, left, fault := admit.Admit(api.Env{}, nat(), spent); fault != api.OK || left != 0 || len(e.Core) != 12 {
		t.Error("just enough", fault)
	}
	for _, fuel := range []int{0, 5, 6, 7, 100, spent / 2, spent - 1} {
		if e, left, fault := admit.Admit(api.Env{}, nat(), fuel); fault != api.ErrFuel || left != 0 || !same(e, api.Env{}) {
			t.Error("too little", fuel, fault)
		}
	}
	n := ind(0, 0)
	over := admitted(t, world()...)
	kept := admitted(t, world()...)
	for i, c := range []struct {
		e     api.Env
		d     api.Decl
		fuel  int
		fault api.Errno
	}{
		{over, nat(), -1, api.ErrArg}, {over, nat(), api.MaxFuel + 1, api.ErrArg}, {over, axiom(0, n), 100, api.OK}, {over, axiom(0, number(1)), 100, api.ErrSort}, {over, def(0, n, sort()), 100, api.ErrType}, {over, api.Decl{}, 100, api.ErrShape},
		{over, single(pi(pi(self(0), n), self(0))), 100, api.ErrPositive}, {over, single(pi(sort(), self(0))), 100, api.ErrLevel}, {over, def(0, n, number(2)), 1000, api.OK}, {over, rose(), api.MaxFuel, api.OK},
		{over, def(0, n, number(2)), 12, api.ErrFuel},
		{api.Env{Decls: make([]api.Decl, 200)}, nat(), 100, api.ErrFull}, {api.Env{Decls: over.Decls, At: over.At}, axiom(0, n), 100, api.ErrCore}, {api.Env{Decls: over.Decls}, axiom(0, n), 100, api.ErrCore}, {api.Env{Core: over.Core}, axiom(0, sort()), 100, api.OK},
	} {
		out, left, fault := admit.Admit(c.e, c.d, c.fuel)
		if fault != c.fault || fault != api.OK && (left != 0 || !same(out, api.Env{})) {
			t.Error(i, fault)
		}
		if fault != api.OK {
			continue
		}
		whole := c.d
		if c.d.Kind == api.DeclBlock {
			whole, _ = nest.Unfold(c.e.Decls, c.d)
		}
		want(t, "the declarations", out.Decls, append(c.e.Decls[:len(c.e.Decls):len(c.e.Decls)], whole))
		want(t, "the core", out.Core, append(c.e.Core[:len(c.e.Core):len(c.e.Core)], admit.Core(c.e, whole)...))
		want(t, "the bases", out.At, append(c.e.At[:len(c.e.At):len(c.e.At)], len(c.e.Core)))
	}
	want(t, "the environment", over, kept)
}

func TestP28_3(t *testing.T) {
	e := admitted(t, world()...)
	n := ind(0, 0)
	typ, left, fault := admit.Judge(e, 0, nil, plus(number(1), number(2)), api.MaxFuel)
	if fault != api.OK {
		t.Fatal("one and two", fault)
	}
	source, rest, _ := sinfer.Infer(e.Decls, 0, nil, plus(number(1), number(2)), api.MaxFuel)
	want(t, "one and two", typ, source)
	spent := api.MaxFuel - left
	if left >= rest {
		t.Error("the core costs nothing")
	}
	if _, left, fault := admit.Judge(e, 0, nil, plus(number(1), number(2)), spent); fault != api.OK || left != 0 {
		t.Error("just enough", fault)
	}
	for _, fuel := range []int{0, api.MaxFuel - rest, spent - 1} {
		if typ, left, fault := admit.Judge(e, 0, nil, plus(number(1), number(2)), fuel); fault != api.ErrFuel || left != 0 || !same(typ, api.Term{}) {
			t.Error("too little", fault)
		}
	}
	ctx := row(sort(1, 0), v(0), pi(v(1), n))
	typ, _, fault = admit.Judge(e, 1, ctx, app(v(0), v(1)), 1000)
	want(t, "a context", fault, api.OK)
	want(t, "a context", typ, n)
	for i, c := range []struct {
		e     api.Env
		n     int
		ctx   []api.Term
		x     api.Term
		fuel  int
		fault api.Errno
	}{
		{e, 0, nil, n, -1, api.ErrArg}, {e, 0, nil, n, api.MaxFuel + 1, api.ErrArg}, {e, 0, nil, v(0), 100, api.ErrShape}, {e, 0, nil, app(n, n), 100, api.ErrFunc}, {e, 0, nil, app(ctor(0, 1), n), 100, api.ErrType}, {e, 0, nil, sort(0, 1000), 100, api.ErrLevel},
		{e, 9, nil, n, 100, api.ErrCore}, {api.Env{Decls: e.Decls, At: e.At}, 0, nil, n, 100, api.ErrCore}, {api.Env{Decls: e.Decls}, 0, nil, n, 100, api.ErrCore}, {api.Env{}, 0, nil, sort(), 100, api.OK}, {e, 0, row(fin(1)), v(0), 100, api.OK}, {e, 0, row(v(0)), v(0), 100, api.ErrCore},
	} {
		typ, left, fault := admit.Judge(c.e, c.n, c.ctx, c.x, c.fuel)
		if fault != c.fault || fault != api.OK && (left != 0 || !same(typ, api.Term{})) {
			t.Error(i, fault)
		}
	}
}

func TestP28_4(t *testing.T) {
	e := admitted(t, append(append(world(), blocks()[3:]...), deepNests()...)...)
	if _, at, fault := cenv.All(e.Core, api.MaxFuel); fault != api.OK {
		t.Error("the core anew", at, fault)
	}
	if _, at, fault := senv.All(e.Decls, api.MaxFuel); fault != api.OK {
		t.Error("the source anew", at, fault)
	}
	want(t, "the bases", e.At, carry.At(e.Decls))
	for _, x := range []api.Term{double(number(2)), plus(double(number(1)), number(1)), lam(ind(0, 0), plus(v(0), double(v(0)))), lams(sort(), app(ind(1, 0, lv()), v(0)), v(0))} {
		typ, left, fault := admit.Judge(e, 0, nil, x, 100000000)
		if fault != api.OK {
			t.Fatal("judged", x, fault)
		}
		more, left2, _ := admit.Judge(e, 0, nil, x, 100001000)
		want(t, "more fuel", more, typ)
		want(t, "more fuel", left2, left+1000)
		for y, steps := shead.Step(e.Decls, x); steps; y, steps = shead.Step(e.Decls, y) {
			if _, _, fault := admit.Judge(e, 0, nil, y, api.MaxFuel); fault != api.OK {
				t.Fatal("behind a step", y, fault)
			}
		}
	}
}

// TestCarriedOver holds what is one in the source against the core: it is one there, carried over.
func TestCarriedOver(t *testing.T) {
	e := admitted(t, append(world(), rose())...)
	n, u := ind(0, 0), lv()
	list := func(l ...api.Term) api.Term {
		x := app(ctor(1, 0, u), n)
		for _, a := range l {
			x = app(ctor(1, 1, u), n, a, x)
		}
		return x
	}
	length := func(x api.Term) api.Term {
		typ := app(ind(1, 0, u), n)
		return app(rec(1, 0, u, u), n, lam(typ, n), number(0), lams(n, typ, n, app(ctor(0, 1), v(0))), x)
	}
	all := []api.Term{number(0), number(2), double(number(1)), plus(number(1), number(1)), plus(v(0), number(1)), v(0), app(ctor(0, 1), v(0)), plus(app(ctor(0, 1), v(0)), number(0)),
		app(ctor(0, 1), plus(v(0), number(0))), length(list(v(0), number(3))), lam(n, app(v(1), v(0))), list(number(2)), list(double(number(1))), lam(n, double(v(0))), lam(n, plus(v(0), number(0)))}
	over := carry.Terms(e.Decls, e.At, all)
	ones := 0
	for i, a := range all {
		for j, b := range all {
			yes, _, e1 := sconv.Conv(e.Decls, a, b, 100000)
			there, _, e2 := conv.Conv(e.Core, over[i], over[j], 10000000)
			if e1 != api.OK || e2 != api.OK || yes && !there {
				t.Error("one here, but not there", i, j, e1, e2)
			}
			if yes && i != j {
				ones++
			}
		}
	}
	if ones < 10 {
		t.Error("too few are one", ones)
	}
}
