package tests

import (
	"math"
	"math/rand"
	"testing"

	"spandrel/api"
	"spandrel/core"
	"spandrel/term"
)

// coreTerm is a right core term among 2 level variables, in a scope, over two constants of 0 and 2 levels.
func coreTerm(r *rand.Rand, deep, scope int) api.Term {
	if deep < 2 {
		switch r.Intn(6) {
		case 0:
			return sort(r.Intn(3), r.Intn(4))
		case 1:
			return con(0)
		case 2:
			return con(1, lv(1, 0), lv(0, r.Intn(3)))
		case 3:
			return fin(r.Intn(3))
		case 4:
			return elem(1, 2)
		}
		if scope > 0 {
			return v(r.Intn(scope))
		}
		return refl()
	}
	rows := table()
	row := rows[r.Intn(len(rows))]
	for row.kids == 0 || row.kind > api.KLet && row.kind < api.KSigma {
		row = rows[r.Intn(len(rows))]
	}
	t := api.Term{Kind: row.kind}
	kids := row.kids
	if kids < 0 {
		t.At = r.Intn(3)
		kids = t.At + 2
	}
	for i := range kids {
		in := scope
		if i == row.bnd {
			in++
		}
		t.Kids = append(t.Kids, coreTerm(r, deep-1-r.Intn(2), in))
	}
	return t
}

func TestP5_1(t *testing.T) {
	consts := []int{0, 2}
	for i, c := range []struct {
		n, scope int
		x        api.Term
		want     bool
	}{
		{0, 0, lam(fin(2), v(0)), true}, {0, 0, v(0), false}, {0, 1, v(0), true}, {0, 1, v(1), false}, {0, 1, v(-1), false},
		{-1, 0, refl(), false}, {0, -1, refl(), false}, {0, math.MaxInt, lam(refl(), v(0)), true}, {0, math.MaxInt, lam(refl(), v(7)), true},
		{1, 0, sort(1, 0), true}, {0, 0, sort(1, 0), false}, {1, 0, sort(1, 1001), false}, {1, 0, api.Term{Kind: api.KSort}, false},
		{1, 0, name(api.KSort, 0, 0, lv(), lv()), false},
		{0, 0, con(0), true}, {0, 0, con(1), false}, {0, 0, con(1, lv(), lv()), true}, {0, 0, con(2), false}, {0, 0, con(-1), false},
		{1, 0, con(1, lv(), lv(1, 0)), true}, {0, 0, con(1, lv(), lv(1, 0)), false}, {0, 0, con(0, lv()), false},
		{0, 0, fin(0), true}, {0, 0, fin(-1), false}, {0, 0, fin(math.MaxInt), true},
		{0, 0, elem(0, 1), true}, {0, 0, elem(1, 1), false}, {0, 0, elem(-1, 1), false}, {0, 0, elem(0, 0), false}, {0, 0, elem(math.MaxInt-1, math.MaxInt), true},
		{0, 0, cas(refl(), refl()), true}, {0, 0, cas(refl(), refl(), refl()), true}, {0, 0, api.Term{Kind: api.KCase, At: 1, Kids: row(refl(), refl())}, false},
		{0, 0, api.Term{Kind: api.KCase, At: -2}, false}, {0, 0, api.Term{Kind: api.KCase, At: -1, Kids: row(refl())}, false}, {0, 0, api.Term{Kind: api.KCase, At: math.MaxInt}, false},
		{0, 0, ind(0, 0), false}, {0, 0, ctor(0, 0), false}, {0, 0, rec(0, 0), false}, {0, 0, self(0), false}, {0, 0, api.Term{}, false}, {0, 0, api.Term{Kind: 25}, false},
		{0, 0, sigma(refl(), v(0)), true}, {0, 0, tree(refl(), v(0)), true}, {0, 0, let(refl(), refl(), v(0)), true}, {0, 0, let(refl(), v(0), refl()), false},
		{0, 0, treeRec(refl(), v(0), refl(), refl(), refl()), true}, {0, 0, treeRec(refl(), refl(), v(0), refl(), refl()), false},
		{0, 0, jay(refl(), refl(), refl(), refl(), refl(), refl()), true}, {0, 0, jay(refl(), v(0), refl(), refl(), refl(), refl()), false},
		{0, 0, pair(refl(), ind(0, 0)), false}, {0, 0, node(api.KPair, refl()), false}, {0, 0, api.Term{Kind: api.KRefl, Num: 1}, false}, {0, 0, api.Term{Kind: api.KRefl, At: 1}, false},
		{0, 0, api.Term{Kind: api.KFin, Num: 1, At: 1}, false}, {0, 1, api.Term{Kind: api.KVar, Kids: row(refl())}, false}, {0, 1, api.Term{Kind: api.KVar, Levels: []api.Level{{}}}, false},
		{0, 0, chain(5000), true}, {0, 0, broad(50000), true},
	} {
		if core.Right(c.n, c.scope, consts, c.x) != c.want {
			t.Error(i)
		}
	}
}

func TestP5_2(t *testing.T) {
	l := []api.Core{{Levels: 0, Type: sort()}, {Levels: 2, Type: sort(2, 1), Has: true, Body: con(0, lv(1, 0), lv(2, 3))}, {Levels: -1, Has: true}}
	want(t, "Consts", core.Consts(l), []int{0, 2, -1})
	want(t, "Consts", core.Consts(nil), []int(nil))
	u, w := lv(0, 4), lv(1, 1)
	x, ok := core.Type(l, 1, u, w)
	want(t, "Type", x, sort(1, 2))
	want(t, "Type", ok, true)
	x, ok = core.Body(l, 1, u, w)
	want(t, "Body", x, con(0, lv(0, 4), lv(1, 4)))
	want(t, "Body", ok, true)
	x, ok = core.Type(l, 0)
	want(t, "Type", x, sort())
	want(t, "Type", ok, true)
	for i, none := range []func() (api.Term, bool){
		func() (api.Term, bool) { return core.Type(l, -1) },
		func() (api.Term, bool) { return core.Type(l, 3) },
		func() (api.Term, bool) { return core.Type(l, 0, u) },
		func() (api.Term, bool) { return core.Type(l, 1, u) },
		func() (api.Term, bool) { return core.Type(l, 2) },
		func() (api.Term, bool) { return core.Body(l, 0) },
		func() (api.Term, bool) { return core.Body(l, 1) },
		func() (api.Term, bool) { return core.Body(l, 3) },
		func() (api.Term, bool) { return core.Body(nil, -1) },
	} {
		if x, ok := none(); ok || !same(x, api.Term{}) {
			t.Error(i)
		}
	}
	x, _ = core.Body(l, 1, u, w)
	apart(t, "Body", row(l[1].Body), x)
}

func TestP5_3(t *testing.T) {
	r := chance(5)
	consts := []int{0, 2}
	for range 3000 {
		x, a := coreTerm(r, 5, 2), coreTerm(r, 3, 1)
		if !core.Right(2, 2, consts, x) || !core.Right(2, 1, consts, a) {
			t.Fatal("Right", x, a)
		}
		by := []api.Level{lv(1, 2), lv(3, 0)}
		if !core.Right(2, 5, consts, term.Lift(x, 3, 1)) || !core.Right(2, 1, consts, term.Put(x, a)) || !core.Right(3, 2, consts, term.Levels(x, by)) {
			t.Fatal("right no more", x, a)
		}
		if term.Free(x, 1, 2) == core.Right(2, 1, consts, x) {
			t.Fatal("scope", x)
		}
	}
}
