package tests

import (
	"testing"

	"spandrel/api"
	"spandrel/infer"
	"spandrel/term"
)

// inferred is a term in a context among one level variable, and its type, or its error; cost is what it costs.
type inferred struct {
	ctx     []api.Term
	x, want api.Term
	e       api.Errno
	cost    int
}

// natTree is a tree type: the numbers as trees.
func natTree() api.Term {
	return tree(fin(2), cas(lam(fin(2), sort()), v(0), fin(0), fin(1)))
}

func inferCases() []inferred {
	u, two := sort(1, 0), fin(2)
	e0, e1 := elem(0, 2), elem(1, 2)
	none := api.Term{}
	ctx := row(u, v(0), pi(v(1), v(2)))
	mot := lam(two, two)
	b := cas(lam(two, sort()), v(0), fin(0), fin(1))
	jp := lam(two, lam(idOf(two, e0, v(0)), fin(1)))
	return []inferred{
		{nil, lam(two, v(0)), pi(two, two), api.OK, 3},
		{ctx, v(0), pi(v(2), v(3)), api.OK, 1}, {ctx, v(1), v(2), api.OK, 1}, {ctx, v(2), u, api.OK, 1},
		{ctx, app(v(0), v(1)), v(2), api.OK, 6}, {ctx, app(v(1), v(1)), none, api.ErrFunc, 2}, {ctx, app(v(0), v(2)), none, api.ErrType, 6},
		{nil, sort(0, 3), sort(0, 4), api.OK, 1}, {nil, u, sort(1, 1), api.OK, 1}, {nil, sort(0, 1000), none, api.ErrLevel, 1},
		{nil, pi(u, v(0)), sort(1, 1), api.OK, 3}, {nil, pi(sort(0, 1), sort(1, 0)), sort(0, 2, 1, 1), api.OK, 3}, {nil, pi(e0, two), none, api.ErrSort, 2},
		{nil, sigma(two, sort()), sort(0, 1), api.OK, 3}, {nil, tree(two, v(0)), none, api.ErrSort, 3},
		{nil, let(sort(0, 1), sort(), lam(v(0), v(0))), pi(sort(), sort()), api.OK, 11},
		{nil, let(sort(), sort(), v(0)), none, api.ErrType, 5}, {nil, let(e0, e0, v(0)), none, api.ErrSort, 2},
		{row(sigma(two, idOf(two, v(0), v(0)))), fst(v(0)), two, api.OK, 2},
		{row(sigma(two, idOf(two, v(0), v(0)))), snd(v(0)), idOf(two, fst(v(0)), fst(v(0))), api.OK, 2 + 6},
		{row(two), fst(v(0)), none, api.ErrPair, 2}, {row(two), snd(v(0)), none, api.ErrPair, 2},
		{nil, idOf(two, e0, e1), sort(), api.OK, 8}, {nil, idOf(two, sort(), e1), none, api.ErrType, 6},
		{nil, fin(0), sort(), api.OK, 1}, {nil, elem(1, 3), fin(3), api.OK, 1},
		{nil, cas(mot, e0, e1, e0), app(mot, e0), api.OK, 1 + 3 + 3 + 1 + 5 + 5},
		{nil, cas(mot, elem(0, 1), e1, e0), none, api.ErrType, 5}, {nil, cas(lam(fin(1), two), e0, e1, e0), none, api.ErrType, 8},
		{nil, cas(two, e0, e1, e0), none, api.ErrFunc, 5}, {nil, cas(lam(two, e0), e0, e1, e0), none, api.ErrSort, 8}, {nil, cas(mot, e0, e1, sort()), none, api.ErrType, 18},
		{nil, pair(e0, e0), none, api.ErrBare, 1}, {nil, sup(e0, e0), none, api.ErrBare, 1}, {nil, refl(), none, api.ErrBare, 1},
		{row(natTree()), treeRec(two, b, lam(natTree(), two), lam(two, lam(pi(b, natTree()), lam(pi(term.Lift(b, 1, 0), two), e1))), v(0)), app(lam(natTree(), two), v(0)), api.OK, 0},
		{row(two), treeRec(two, b, lam(natTree(), two), e0, v(0)), none, api.ErrType, 0},
		{row(natTree()), treeRec(two, b, lam(two, two), e0, v(0)), none, api.ErrType, 0},
		{row(natTree()), treeRec(two, b, lam(natTree(), two), e0, v(0)), none, api.ErrType, 0},
		{row(idOf(two, e0, e1)), jay(two, e0, jp, elem(0, 1), e1, v(0)), app(jp, e1, v(0)), api.OK, 0},
		{nil, jay(two, e0, jp, elem(0, 1), e0, refl()), app(jp, e0, refl()), api.OK, 0},
		{nil, jay(two, e0, jp, elem(0, 1), e1, refl()), none, api.ErrPath, 0},
		{nil, jay(two, e0, lam(two, two), elem(0, 1), e0, refl()), none, api.ErrFunc, 0},
		{nil, jay(two, e0, two, elem(0, 1), e0, refl()), none, api.ErrFunc, 0},
		{nil, jay(two, e0, lam(fin(3), lam(two, two)), elem(0, 1), e0, refl()), none, api.ErrType, 0},
		{nil, jay(two, e0, lam(two, lam(two, two)), elem(0, 1), e0, refl()), none, api.ErrType, 0},
		{nil, jay(two, e0, lam(two, lam(idOf(two, e0, v(0)), e0)), elem(0, 1), e0, refl()), none, api.ErrSort, 0},
		{nil, jay(two, e0, jp, e1, e0, refl()), none, api.ErrType, 0},
	}
}

func TestP9_1_Infer(t *testing.T) {
	for i, c := range inferCases() {
		typ, left, e := infer.Infer(nil, 1, c.ctx, c.x, 1000)
		if e != c.e || !same(typ, c.want) || e != api.OK && left != 0 {
			t.Error(i, e, typ)
		}
		cost := c.cost
		if cost == 0 && e == api.OK {
			cost = 1000 - left
		}
		if e == api.OK && left != 1000-cost {
			t.Error("cost", i, 1000-left)
		}
		if cost == 0 {
			continue
		}
		if _, left, e := infer.Infer(nil, 1, c.ctx, c.x, cost); e != c.e || left != 0 {
			t.Error("just enough", i, e, left)
		}
		if typ, left, e := infer.Infer(nil, 1, c.ctx, c.x, cost-1); e != api.ErrFuel || left != 0 || !same(typ, api.Term{}) {
			t.Error("too little", i, e)
		}
	}
	l := coreEnv()
	typ, left, e := infer.Infer(l, 0, nil, con(2, lv(0, 3), lv()), 9)
	if !same(typ, sort(0, 4)) || left != 8 || e != api.OK {
		t.Error("constant", typ, left, e)
	}
	typ, left, e = infer.Infer(l, 0, nil, app(con(3), elem(0, 2)), 9)
	if !same(typ, fin(2)) || left != 9-6 || e != api.OK {
		t.Error("constant at an argument", typ, left, e)
	}
}

func TestP9_1_Check(t *testing.T) {
	two, e0, e1 := fin(2), elem(0, 2), elem(1, 2)
	zero := sup(elem(0, 2), lam(fin(0), cas(lam(fin(0), natTree()), v(0))))
	b := cas(lam(two, sort()), e0, fin(0), fin(1))
	zeroOf := sup(elem(0, 2), lam(b, cas(lam(fin(0), natTree()), v(0))))
	for i, c := range []struct {
		x, typ api.Term
		e      api.Errno
		cost   int
	}{
		{refl(), idOf(two, e0, e0), api.OK, 2}, {refl(), idOf(two, e0, e1), api.ErrPath, 2}, {refl(), two, api.ErrPath, 1},
		{e0, two, api.OK, 3}, {e0, fin(3), api.ErrType, 4}, {sort(), sort(0, 5), api.OK, 3}, {sort(0, 5), sort(0, 5), api.ErrType, 3},
		{lam(two, v(0)), pi(two, two), api.OK, 6}, {lam(two, v(0)), two, api.ErrFunc, 1}, {lam(fin(3), v(0)), pi(two, two), api.ErrType, 3}, {lam(two, v(0)), pi(two, fin(3)), api.ErrType, 7},
		{lam(e0, v(0)), pi(two, two), api.ErrSort, 2},
		{pair(e0, refl()), sigma(two, idOf(two, v(0), e0)), api.OK, 1 + 3 + 4 + 2}, {pair(e1, refl()), sigma(two, idOf(two, v(0), e0)), api.ErrPath, 10}, {pair(e0, e0), two, api.ErrPair, 1},
		{zero, natTree(), api.OK, 0}, {zeroOf, natTree(), api.OK, 0}, {zero, two, api.ErrTree, 1}, {sup(elem(1, 2), zero.Kids[1]), natTree(), api.ErrType, 0}, {sup(sort(), zero.Kids[1]), natTree(), api.ErrType, 0},
		{let(two, e0, refl()), idOf(two, e0, e0), api.OK, 1 + 1 + 3 + 1 + 2}, {let(two, e0, v(0)), idOf(two, e0, e0), api.ErrType, 0}, {let(fin(3), e0, refl()), idOf(two, e0, e0), api.ErrType, 0},
	} {
		left, e := infer.Check(nil, 0, nil, c.x, c.typ, 1000)
		if e != c.e || e != api.OK && left != 0 {
			t.Error(i, e)
		}
		if e == api.OK && c.cost > 0 && left != 1000-c.cost {
			t.Error("cost", i, 1000-left)
		}
		if c.cost == 0 {
			continue
		}
		if left, e := infer.Check(nil, 0, nil, c.x, c.typ, c.cost); e != c.e || left != 0 {
			t.Error("just enough", i, e)
		}
		if left, e := infer.Check(nil, 0, nil, c.x, c.typ, c.cost-1); e != api.ErrFuel || left != 0 {
			t.Error("too little", i, e)
		}
	}
}

func TestP9_1_Sort(t *testing.T) {
	for i, c := range []struct {
		x    api.Term
		want api.Level
		e    api.Errno
	}{
		{sort(0, 0, 1, 0), lv(1, 1), api.OK}, {fin(2), lv(), api.OK}, {pi(sort(1, 0), sort(0, 1)), lv(0, 2, 1, 1), api.OK}, {elem(0, 1), lv(), api.ErrSort}, {refl(), lv(), api.ErrBare},
		{let(sort(0, 1), sort(), v(0)), lv(0, 1), api.OK}, {sort(0, 1000), lv(), api.ErrLevel},
	} {
		u, left, e := infer.Sort(nil, 1, nil, c.x, 100)
		if !same(u, c.want) || e != c.e || e != api.OK && left != 0 || e == api.OK && left == 0 {
			t.Error(i, u, left, e)
		}
	}
	two := fin(2)
	for i, c := range []struct {
		n, fuel  int
		ctx      []api.Term
		x, typ   api.Term
		e        api.Errno
		checking bool
	}{
		{-1, 5, nil, two, sort(), api.ErrArg, false}, {9, 5, nil, two, sort(), api.ErrArg, false}, {0, -1, nil, two, sort(), api.ErrArg, false}, {0, api.MaxFuel + 1, nil, two, sort(), api.ErrArg, false},
		{-1, 5, nil, v(0), sort(), api.ErrArg, false},
		{0, 5, nil, v(0), sort(), api.ErrScope, false}, {0, 5, row(v(0)), two, sort(), api.ErrScope, false}, {0, 5, row(sort(), v(1)), two, sort(), api.ErrScope, false},
		{0, 5, nil, sort(1, 0), sort(), api.ErrScope, false}, {0, 5, nil, con(0), sort(), api.ErrScope, false}, {0, 5, nil, ind(0, 0), sort(), api.ErrScope, false}, {0, 5, nil, two, v(0), api.ErrScope, true},
		{0, 5, row(sort(1, 0)), two, sort(), api.ErrScope, false}, {8, api.MaxFuel, row(sort(8, 0), v(0)), two, sort(), api.OK, false},
		{0, 0, nil, two, sort(), api.ErrFuel, false},
	} {
		typ, left, e := infer.Infer(nil, c.n, c.ctx, c.x, c.fuel)
		if !c.checking && (e != c.e || e != api.OK && (left != 0 || !same(typ, api.Term{}))) {
			t.Error("Infer", i, e)
		}
		u, left, e := infer.Sort(nil, c.n, c.ctx, c.x, c.fuel)
		if !c.checking && (e != c.e || e != api.OK && (left != 0 || !same(u, api.Level{}))) {
			t.Error("Sort", i, e)
		}
		left, e = infer.Check(nil, c.n, c.ctx, c.x, c.typ, c.fuel)
		if e != c.e || e != api.OK && left != 0 {
			t.Error("Check", i, e)
		}
	}
}

func TestP9_2(t *testing.T) {
	for i, c := range inferCases() {
		typ, left, e := infer.Infer(nil, 1, c.ctx, c.x, 1000)
		deeper := row(sort(1, 0), pi(v(0), v(1)))
		for j, x := range c.ctx {
			deeper = append(deeper, term.Lift(x, 2, j))
		}
		lifted := term.Lift(c.x, 2, len(c.ctx))
		typ2, left2, e2 := infer.Infer(nil, 1, deeper, lifted, 1000)
		if e2 != e || left2 != left || e == api.OK && !same(typ2, term.Lift(typ, 2, len(c.ctx))) {
			t.Error("a greater context", i, e2)
		}
		behind := append(append([]api.Term(nil), c.ctx...), fin(5))
		typ3, left3, e3 := infer.Infer(nil, 1, behind, term.Lift(c.x, 1, 0), 1000)
		if e3 != e || left3 != left || e == api.OK && !same(typ3, term.Lift(typ, 1, 0)) {
			t.Error("a type behind", i, e3)
		}
		if e != api.OK {
			continue
		}
		if _, e := infer.Check(nil, 1, c.ctx, c.x, typ, 1000); e != api.OK {
			t.Error("against its type", i, e)
		}
		for n := range 3 {
			if y, ok := stepWithin(nil, c.x, &n); ok {
				if _, e := infer.Check(nil, 1, c.ctx, y, typ, 1000); e != api.OK && e != api.ErrBare {
					t.Error("behind a step", i, e)
				}
			}
		}
	}
}
