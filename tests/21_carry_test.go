package tests

import (
	"testing"

	"spandrel/api"
	"spandrel/carry"
	"spandrel/split"
	"spandrel/term"
)

func TestP21_1(t *testing.T) {
	for _, c := range []struct {
		d    api.Decl
		want int
	}{{nat(), 12}, {list(), 12}, {axiom(0, sort()), 1}, {def(0, sort(), sort()), 1}, {api.Decl{}, 0}, {api.Decl{Kind: 4, Members: make([]api.Member, 3)}, 0}, {block(0, nil, lv(), make([][]api.Term, 3), make([]api.Ctor, 5)...), 22}, {block(0, nil, lv(), nil), 6}} {
		want(t, "Count", carry.Count(c.d), c.want)
	}
	want(t, "At", carry.At(world()), []int{0, 12, 24, 25, 26})
	want(t, "At", carry.At([]api.Decl{{}, nat(), {Kind: 9}, nat()}), []int{0, 0, 12, 12})
	want(t, "At", carry.At(nil), []int(nil))
}

func TestP21_2(t *testing.T) {
	two := block(0, nil, lv(), make([][]api.Term, 2), make([]api.Ctor, 3)...)
	decls := append(world(), two, nat())
	at := carry.At(decls)
	u, w := lv(1, 3), lv(0, 0)
	for i, c := range []struct{ x, want api.Term }{
		{ind(0, 0), con(5)}, {ctor(0, 0), con(6)}, {ctor(0, 1), con(7)}, {rec(0, 0, u), con(9, u)}, {con(3), con(25)}, {con(2, u), con(24, u)}, {ind(1, 0, w), con(17, w)}, {ctor(1, 1, u), con(19, u)}, {rec(1, 0, u, w), con(21, u, w)},
		{ind(5, 1), con(38 + 5 + 1)}, {ctor(5, 2), con(38 + 5 + 2 + 2)}, {rec(5, 1), con(38 + 6 + 5 + 1)}, {ind(6, 0), con(54 + 5)},
		{ind(0, 1), ind(0, 1)}, {ind(0, -1), ind(0, -1)}, {ctor(0, 2), ctor(0, 2)}, {rec(0, 1), rec(0, 1)}, {ind(3, 0), ind(3, 0)}, {con(0), con(0)}, {con(7), con(7)}, {con(-1), con(-1)}, {ind(9, 0), ind(9, 0)}, {ind(-1, 0), ind(-1, 0)},
		{self(0), self(0)}, {v(3), v(3)}, {sort(1, 0, 0, 0), sort(1, 0, 0, 0)}, {fin(4), fin(4)}, {lam(ind(0, 0), app(ctor(0, 1), v(0))), lam(con(5), app(con(7), v(0)))},
		{api.Term{Kind: api.KInd, Kids: row(ind(0, 0))}, api.Term{Kind: api.KConst, Num: 5, Kids: row(con(5))}}, {api.Term{Kind: 99, Num: 1, Kids: row(ind(0, 0))}, api.Term{Kind: 99, Num: 1, Kids: row(con(5))}},
		{api.Term{Kind: api.KConst, Num: 3, At: 7}, con(25)},
	} {
		if got := carry.Term(decls, at, c.x); !same(got, c.want) {
			t.Error(i, got)
		}
	}
	want(t, "Terms", carry.Terms(decls, at, row(ind(0, 0), v(1))), row(con(5), v(1)))
	want(t, "Terms", carry.Terms(decls, at, nil), row())
	want(t, "no base", carry.Terms(decls, at[:1], row(ind(0, 0), ind(1, 0, u), con(3))), row(con(5), ind(1, 0, u), con(3)))
	want(t, "other bases", carry.Term(decls, []int{100}, ind(0, 0)), con(105))
	n := con(5)
	carried := block(1, row(sort(1, 0)), lv(1, 0), members(row(n)), ct(0, app(self(0), con(6))), ct(0, pis(n, v(1), app(self(0), v(1)), app(self(0), app(con(7), v(2))))))
	want(t, "Block", carry.Block(decls, at, vec()), carried)
	want(t, "Block", carry.Block(decls, at, def(1, ind(0, 0), con(3))), def(1, n, con(25)))
	odd := api.Decl{Kind: 9, Levels: 3, Type: ind(0, 0), Sort: lv(3, 3), Ctors: []api.Ctor{{Member: 8, Type: con(3)}}}
	want(t, "Block", carry.Block(decls, at, odd), api.Decl{Kind: 9, Levels: 3, Type: n, Sort: lv(3, 3), Ctors: []api.Ctor{{Member: 8, Type: con(25)}}})
	want(t, "Rules", carry.Rules(decls, at, readRules(vec())), readRules(carried))
	tele := []api.Rule{{Member: 2, Args: []api.Arg{recursive(1, row(ind(0, 0)), ctor(0, 0)), plain(con(3))}, Index: row(ctor(0, 1))}}
	want(t, "Rules", carry.Rules(decls, at, tele), []api.Rule{{Member: 2, Args: []api.Arg{recursive(1, row(n), con(6)), plain(con(25))}, Index: row(con(7))}})
}

// holdsName says whether a name of the source stands in a term.
func holdsName(t api.Term) bool {
	for _, kid := range t.Kids {
		if holdsName(kid) {
			return true
		}
	}
	return t.Kind >= api.KInd && t.Kind <= api.KRec
}

func TestP21_3(t *testing.T) {
	decls := world()
	at := carry.At(decls)
	r := chance(21)
	over := func(x api.Term) api.Term { return carry.Term(decls, at, x) }
	for range 3000 {
		x, a := sourceTerm(r, 5, 3), sourceTerm(r, 4, 2)
		y := over(x)
		by := []api.Level{lv(0, 1), lv(1, 2, 2, 0)}
		if term.Size(y) != term.Size(x) || split.Self(y) != split.Self(x) || term.Free(y, 0, 2) != term.Free(x, 0, 2) || holdsName(y) {
			t.Fatal("the shape", x)
		}
		want(t, "lifted", over(term.Lift(x, 2, 1)), term.Lift(y, 2, 1))
		want(t, "put", over(term.Put(x, a)), term.Put(y, over(a)))
		want(t, "levels", over(term.Levels(x, by)), term.Levels(y, by))
	}
	seen := map[int]int{}
	for num, d := range decls {
		names := row(con(num))
		if d.Kind == api.DeclBlock {
			names = nil
			for m := range d.Members {
				names = append(names, ind(num, m), rec(num, m))
			}
			for c := range d.Ctors {
				names = append(names, ctor(num, c))
			}
		}
		for _, x := range names {
			y := over(x)
			if seen[y.Num]++; seen[y.Num] > 1 || y.Kind != api.KConst {
				t.Error("one constant of two names", x)
			}
		}
	}
	args := row(list().Ctors[1].Type, con(2, lv(1, 0)))
	apart(t, "Term", args, over(args[0]), over(args[1]))
	apart(t, "Terms", args, carry.Terms(decls, at, args)...)
	d := vec()
	spoilDecl(carry.Block(decls, at, d))
	want(t, "Block", d, vec())
}
