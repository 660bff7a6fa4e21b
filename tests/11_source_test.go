package tests

import (
	"math/rand"
	"testing"

	"spandrel/api"
	"spandrel/source"
	"spandrel/term"
)

// world are declarations: numbers, lists, an axiom of one level, a definition of none, vectors.
func world() []api.Decl {
	return []api.Decl{nat(), list(), axiom(1, sort(1, 0)), def(0, sort(0, 1), sort()), vec()}
}

// sourceTerm is a right source term over world, among 2 level variables and 2 members.
func sourceTerm(r *rand.Rand, deep, scope int) api.Term {
	u := lv(1, r.Intn(3))
	if deep < 2 {
		names := []api.Term{sort(r.Intn(3), r.Intn(4)), con(2, u), con(3), ind(0, 0), ind(1, 0, u), ctor(0, r.Intn(2)), ctor(1, r.Intn(2), u), rec(0, 0, u), rec(1, 0, u, lv(2, 1)), ind(4, 0, u), self(r.Intn(2))}
		if n := r.Intn(len(names) + 8); n < len(names) {
			return names[n]
		}
		if scope > 0 {
			return v(r.Intn(scope))
		}
		return sort()
	}
	sub := func(in int) api.Term { return sourceTerm(r, deep-1-r.Intn(2), in) }
	switch r.Intn(4) {
	case 0:
		return pi(sub(scope), sub(scope+1))
	case 1:
		return lam(sub(scope), sub(scope+1))
	case 2:
		return let(sub(scope), sub(scope), sub(scope+1))
	}
	return app(sub(scope), sub(scope))
}

func TestP11_1(t *testing.T) {
	decls := world()
	u := lv(1, 0)
	for i, c := range []struct {
		n, scope, self int
		x              api.Term
		want           bool
	}{
		{0, 0, 0, v(0), false}, {0, 1, 0, v(0), true}, {0, 1, 0, v(1), false}, {0, 0, 0, lam(sort(), v(0)), true}, {0, 0, 0, lam(v(0), sort()), false}, {0, 1, 0, let(v(0), v(0), v(1)), true}, {0, 1, 0, let(v(0), v(1), v(1)), false},
		{0, -1, 0, lam(sort(), v(0)), true}, {0, -1, 0, lam(sort(), v(1)), false}, {-1, 0, 0, sort(0, 1), false},
		{1, 0, 0, sort(1, 3), true}, {0, 0, 0, sort(1, 3), false}, {9, 0, 0, sort(9, 3), true}, {99, 0, 0, sort(10, 3), false},
		{0, 0, 0, con(3), true}, {1, 0, 0, con(2, u), true}, {1, 0, 0, con(2), false}, {0, 0, 0, con(2, u), false}, {1, 0, 0, con(3, u), false}, {0, 0, 0, con(0), false}, {0, 0, 0, con(5), false},
		{0, 0, 0, ind(0, 0), true}, {0, 0, 0, ind(0, 1), false}, {1, 0, 0, ind(1, 0, u), true}, {1, 0, 0, ind(1, 0), false}, {0, 0, 0, ind(3, 0), false}, {0, 0, 0, ind(-1, 0), false}, {0, 0, 0, ind(9, 0), false},
		{0, 0, 0, ctor(0, 1), true}, {0, 0, 0, ctor(0, 2), false}, {1, 0, 0, ctor(1, 1, u), true}, {1, 0, 0, ctor(1, 1, u, u), false}, {0, 0, 0, ctor(3, 0), false},
		{0, 0, 0, rec(0, 0), false}, {1, 0, 0, rec(0, 0, u), true}, {1, 0, 0, rec(0, 1, u), false}, {1, 0, 0, rec(1, 0, u), false}, {1, 0, 0, rec(1, 0, u, u), true}, {1, 0, 0, rec(2, 0, u, u), false},
		{0, 0, 1, self(0), true}, {0, 0, 1, self(1), false}, {0, 0, 0, self(0), false}, {0, 0, -2, self(0), false},
		{0, 0, 0, fin(2), false}, {0, 0, 0, refl(), false}, {0, 0, 0, pair(sort(), sort()), false}, {0, 0, 0, api.Term{}, false}, {0, 0, 0, node(api.KApp, sort()), false},
		{0, 0, 0, app(sort(), ind(0, 0)), true}, {0, 0, 0, app(sort(), fin(1)), false},
	} {
		if source.Right(decls, c.n, c.scope, c.self, c.x) != c.want {
			t.Error(i)
		}
	}
	odd := []api.Decl{{Kind: api.DeclAxiom, Levels: 3, Type: v(9)}, {Kind: api.DeclBlock, Members: make([]api.Member, 2)}, {Kind: 7}, {Kind: api.DeclBlock, Levels: -1, Members: make([]api.Member, 1)}}
	if !source.Right(odd, 0, 0, 0, con(0, lv(), lv(), lv())) || !source.Right(odd, 0, 0, 0, ind(1, 1)) || source.Right(odd, 0, 0, 0, con(2)) || source.Right(odd, 0, 0, 0, ind(2, 0)) || !source.Right(odd, 0, 0, 0, rec(3, 0)) {
		t.Error("declarations that are not right")
	}
}

func TestP11_2(t *testing.T) {
	decls := world()
	n := ind(0, 0)
	with := func(change func(d *api.Decl)) api.Decl {
		d := block(1, row(sort(1, 0), v(0)), lv(1, 0), members(row(v(1), v(2)), nil), ct(1, pi(v(1), self(1))))
		change(&d)
		return d
	}
	many := func(n int) func(d *api.Decl) {
		return func(d *api.Decl) {
			for len(d.Ctors) < n {
				d.Ctors = append(d.Ctors, ct(0, sort()))
			}
		}
	}
	for i, c := range []struct {
		d    api.Decl
		want bool
	}{
		{nat(), true}, {list(), true}, {vec(), true}, {axiom(0, n), true}, {axiom(7, sort(7, 0)), true}, {axiom(8, sort()), false}, {axiom(-1, sort()), false}, {axiom(0, sort(1, 0)), false},
		{axiom(0, v(0)), false}, {axiom(0, self(0)), false}, {axiom(0, fin(2)), false}, {axiom(0, api.Term{}), false}, {def(0, sort(), n), true}, {def(0, sort(), v(0)), false}, {def(0, self(0), n), false}, {def(0, sort(), api.Term{}), false},
		{api.Decl{}, false}, {api.Decl{Kind: 4, Type: sort()}, false}, {api.Decl{Kind: api.DeclAxiom, Type: n, Body: n}, false}, {api.Decl{Kind: api.DeclAxiom, Type: n, Sort: lv(0, 0)}, false},
		{api.Decl{Kind: api.DeclDef, Type: n, Body: n, Params: row(n)}, false}, {api.Decl{Kind: api.DeclDef, Type: n, Body: n, Members: make([]api.Member, 1)}, false}, {api.Decl{Kind: api.DeclDef, Type: n, Body: n, Ctors: nat().Ctors}, false},
		{with(func(*api.Decl) {}), true}, {with(func(d *api.Decl) { d.Type = n }), false}, {with(func(d *api.Decl) { d.Body = n }), false}, {with(func(d *api.Decl) { d.Levels = 8 }), false}, {with(func(d *api.Decl) { d.Levels = 7 }), true},
		{with(func(d *api.Decl) { d.Levels = 0 }), false}, {with(func(d *api.Decl) { d.Sort = lv(2, 0) }), false}, {with(func(d *api.Decl) { d.Sort = lv(1, 0, 0, 0) }), false},
		{with(func(d *api.Decl) { d.Params = times(6, n) }), true}, {with(func(d *api.Decl) { d.Params = times(7, n) }), false}, {with(func(d *api.Decl) { d.Params[1] = v(1) }), false}, {with(func(d *api.Decl) { d.Params[1] = self(0) }), false},
		{with(func(d *api.Decl) { d.Members = nil; d.Ctors = nil }), false}, {with(func(d *api.Decl) { d.Members = make([]api.Member, 8) }), true}, {with(func(d *api.Decl) { d.Members = make([]api.Member, 9) }), false},
		{with(func(d *api.Decl) { d.Members[0].Index = times(6, n) }), true}, {with(func(d *api.Decl) { d.Members[0].Index = times(7, n) }), false}, {with(func(d *api.Decl) { d.Members[0].Index[1] = v(3) }), false}, {with(func(d *api.Decl) { d.Members[0].Index[0] = self(0) }), false},
		{with(many(16)), true}, {with(many(17)), false}, {with(func(d *api.Decl) { d.Ctors[0].Member = 2 }), false}, {with(func(d *api.Decl) { d.Ctors[0].Member = -1 }), false},
		{with(func(d *api.Decl) { d.Ctors[0].Type = self(2) }), false}, {with(func(d *api.Decl) { d.Ctors[0].Type = v(2) }), false}, {with(func(d *api.Decl) { d.Ctors[0].Type = api.Term{} }), false},
	} {
		if source.Decl(decls, c.d) != c.want {
			t.Error(i)
		}
	}
	if source.Decl(nil, vec()) || source.Decl(decls[:0], axiom(0, n)) {
		t.Error("names of nothing")
	}
}

func TestP11_3(t *testing.T) {
	r := chance(11)
	decls := world()
	for range 3000 {
		x, a := sourceTerm(r, 5, 2), sourceTerm(r, 4, 1)
		if !source.Right(decls, 2, 2, 2, x) || !source.Right(append(decls, nat()), 3, 4, 5, x) {
			t.Fatal("Right", x)
		}
		if !source.Right(decls, 2, 5, 2, term.Lift(x, 3, 1)) || !source.Right(decls, 2, 1, 2, term.Put(x, a)) {
			t.Fatal("right no more", x)
		}
		if source.Right(decls, 2, 1, 2, x) == term.Free(x, 1, 2) {
			t.Fatal("scope", x)
		}
	}
}
