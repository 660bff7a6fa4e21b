package tests

import (
	"testing"

	"spandrel/api"
	"spandrel/nest"
	"spandrel/split"
	"spandrel/strict"
)

// listIn is a list of x; vecIn a vector of x of a length, over world.
func listIn(x api.Term) api.Term        { return app(ind(1, 0, lv()), x) }
func vecIn(x, length api.Term) api.Term { return app(ind(4, 0, lv()), x, length) }

// single is a block of one member without params, and constructors of these types.
func single(types ...api.Term) api.Decl {
	d := block(0, nil, lv(), members(nil))
	for _, t := range types {
		d.Ctors = append(d.Ctors, ct(0, t))
	}
	return d
}

// rose is a tree whose kids are a list.
func rose() api.Decl { return single(pi(listIn(self(0)), self(0))) }

// nestedBlocks are blocks over world that can be unfolded, and are unfolded to something else.
func nestedBlocks() []api.Decl {
	n, u := ind(0, 0), lv(1, 0)
	listU := func(x api.Term) api.Term { return app(ind(1, 0, u), x) }
	rosePar := block(1, row(sort(1, 0)), lv(1, 0), members(nil), ct(0, pis(v(0), listU(self(0)), self(0))))
	return []api.Decl{
		rose(), rosePar,
		single(pi(listIn(listIn(self(0))), self(0))),
		single(pis(listIn(self(0)), listIn(self(0)), self(0)), self(0)),
		single(pis(n, vecIn(self(0), v(0)), self(0))),
		single(pi(pi(n, listIn(self(0))), self(0)), self(0)),
		single(pi(listIn(pi(n, self(0))), self(0))),
		block(0, nil, lv(), members(nil, row(n)), ct(0, pi(listIn(app(self(1), ctor(0, 0))), self(0))), ct(1, pi(listIn(self(0)), app(self(1), ctor(0, 0))))),
	}
}

func TestP19_1(t *testing.T) {
	d, e := nest.Unfold([]api.Decl{list()}, single(pi(app(ind(0, 0, lv()), self(0)), self(0))))
	want(t, "rose", e, api.OK)
	want(t, "rose", d, block(0, nil, lv(), members(nil, nil), ct(0, pi(self(1), self(0))), ct(1, self(1)), ct(1, pis(self(0), self(1), self(1)))))
	l, e := nest.Instances(world(), rose())
	want(t, "rose", e, api.OK)
	want(t, "rose", l, []nest.Instance{{Num: 1, Levels: []api.Level{lv()}, Heads: row(self(0)), First: 1}})
	all := nestedBlocks()
	n, u := ind(0, 0), lv(1, 0)
	for i, w := range []api.Decl{
		1: block(1, row(sort(1, 0)), lv(1, 0), members(nil, nil), ct(0, pis(v(0), self(1), self(0))), ct(1, self(1)), ct(1, pis(self(0), self(1), self(1)))),
		2: block(0, nil, lv(), members(nil, nil, nil), ct(0, pi(self(2), self(0))), ct(1, self(1)), ct(1, pis(self(0), self(1), self(1))), ct(2, self(2)), ct(2, pis(self(1), self(2), self(2)))),
		3: block(0, nil, lv(), members(nil, nil), ct(0, pis(self(1), self(1), self(0))), ct(0, self(0)), ct(1, self(1)), ct(1, pis(self(0), self(1), self(1)))),
		4: block(0, nil, lv(), members(nil, row(n)), ct(0, pis(n, app(self(1), v(0)), self(0))), ct(1, app(self(1), ctor(0, 0))), ct(1, pis(n, self(0), app(self(1), v(1)), app(self(1), app(ctor(0, 1), v(2)))))),
		5: block(0, nil, lv(), members(nil, nil), ct(0, pi(pi(n, self(1)), self(0))), ct(0, self(0)), ct(1, self(1)), ct(1, pis(self(0), self(1), self(1)))),
		6: block(0, nil, lv(), members(nil, nil), ct(0, pi(self(1), self(0))), ct(1, self(1)), ct(1, pis(pi(n, self(0)), self(1), self(1)))),
		7: block(0, nil, lv(), members(nil, row(n), nil, nil), ct(0, pi(self(2), self(0))), ct(1, pi(self(3), app(self(1), ctor(0, 0)))),
			ct(2, self(2)), ct(2, pis(app(self(1), ctor(0, 0)), self(2), self(2))), ct(3, self(3)), ct(3, pis(self(0), self(3), self(3)))),
	} {
		if i > 0 {
			d, e := nest.Unfold(world(), all[i])
			want(t, "Unfold", e, api.OK)
			want(t, "Unfold", d, w)
		}
	}
	l, _ = nest.Instances(world(), all[2])
	want(t, "Instances", l, []nest.Instance{{Num: 1, Levels: []api.Level{lv()}, Heads: row(self(0)), First: 1}, {Num: 1, Levels: []api.Level{lv()}, Heads: row(self(1)), First: 2}})
	l, _ = nest.Instances(world(), all[1])
	want(t, "Instances", l, []nest.Instance{{Num: 1, Levels: []api.Level{u}, Heads: row(self(0)), First: 1}})
	levels := single(pis(listIn(self(0)), app(ind(1, 0, lv(0, 0)), self(0)), app(ind(1, 0, lv(0, 1)), self(0)), self(0)))
	l, _ = nest.Instances(world(), levels)
	want(t, "levels that are one", len(l), 2)
}

func TestP19_1_Errors(t *testing.T) {
	n := ind(0, 0)
	big := block(0, row(sort()), lv(), make([][]api.Term, 8))
	many := block(0, row(sort()), lv(), members(nil))
	for range 16 {
		many.Ctors = append(many.Ctors, ct(0, self(0)))
	}
	indexed := block(0, row(sort()), lv(), members(row(v(0))), ct(0, pi(v(0), app(self(0), v(0)))))
	decls := append(world(), big, many, indexed)
	nested := func(num int, args ...api.Term) api.Decl { return single(pi(app(ind(num, 0), args...), self(0))) }
	seven := block(0, nil, lv(), make([][]api.Term, 7), ct(0, pi(listIn(self(0)), self(0))))
	eight := block(0, nil, lv(), make([][]api.Term, 8), ct(0, pi(listIn(self(0)), self(0))))
	fourteen := single(pi(listIn(self(0)), self(0)))
	for len(fourteen.Ctors) < 14 {
		fourteen.Ctors = append(fourteen.Ctors, ct(0, self(0)))
	}
	fifteen := fourteen
	fifteen.Ctors = append(fourteen.Ctors[:14:14], ct(0, self(0)))
	grows := block(1, row(sort(1, 0)), lv(1, 0), members(nil), ct(0, pi(app(ind(8, 0, lv(1, 0)), v(0)), self(0))))
	for i, c := range []struct {
		d api.Decl
		e api.Errno
	}{
		{axiom(0, n), api.ErrArg}, {api.Decl{}, api.ErrArg}, {block(0, nil, lv(), make([][]api.Term, 9)), api.ErrArg}, {block(0, nil, lv(), members(nil), make([]api.Ctor, 17)...), api.ErrArg}, {block(0, nil, lv(), members(nil), ct(1, self(0))), api.ErrArg}, {block(0, nil, lv(), members(nil), ct(-1, self(0))), api.ErrArg},
		{nat(), api.OK}, {rose(), api.OK}, {single(n), api.ErrPositive}, {single(app(self(0), self(0))), api.ErrPositive}, {single(listIn(self(0))), api.ErrPositive}, {single(app(self(0), n)), api.OK}, {single(self(9)), api.OK},
		{single(pi(pi(self(0), n), self(0))), api.ErrPositive}, {single(pi(pi(listIn(self(0)), n), self(0))), api.ErrPositive}, {single(pi(app(self(0), self(0)), self(0))), api.ErrPositive}, {single(pi(lam(n, self(0)), self(0))), api.ErrPositive}, {single(pi(app(n, self(0)), self(0))), api.ErrArity},
		{single(pi(listIn(pi(self(0), n)), self(0))), api.ErrPositive}, {single(pi(app(ind(1, 0), self(0)), self(0))), api.ErrPositive}, {single(pi(app(ind(1, 1, lv()), self(0)), self(0))), api.ErrPositive}, {single(pi(app(ind(2, 0, lv()), self(0)), self(0))), api.ErrPositive}, {nested(99, self(0)), api.ErrPositive}, {nested(-1, self(0)), api.ErrPositive}, {single(pi(app(con(3), self(0)), self(0))), api.ErrPositive},
		{single(pi(app(ind(1, 0, lv()), self(0), n), self(0))), api.ErrArity}, {single(pi(app(ind(4, 0, lv()), self(0)), self(0))), api.ErrArity}, {single(pi(vecIn(n, self(0)), self(0))), api.ErrPositive}, {single(pi(vecIn(self(0), n), self(0))), api.OK},
		{single(pis(n, listIn(vecIn(self(0), v(0))), self(0))), api.ErrPositive}, {single(pis(n, listIn(vecIn(self(0), n)), self(0))), api.OK}, {single(pi(pi(n, listIn(vecIn(self(0), v(0)))), self(0))), api.ErrPositive}, {single(pis(n, listIn(pi(v(0), self(0))), self(0))), api.ErrPositive}, {single(pis(n, listIn(pi(n, vecIn(self(0), v(0)))), self(0))), api.OK}, {single(pis(n, listIn(pi(n, app(self(0), v(0)))), self(0))), api.OK},
		{nested(5, self(0)), api.ErrLong}, {nested(6, self(0)), api.ErrLong}, {nested(7, self(0), n), api.ErrPositive}, {nested(7, n, n), api.OK}, {seven, api.OK}, {eight, api.ErrLong}, {fourteen, api.OK}, {fifteen, api.ErrLong}, {grows, api.OK},
		{single(pi(listIn(listIn(listIn(listIn(listIn(listIn(listIn(self(0)))))))), self(0))), api.OK}, {single(pi(listIn(listIn(listIn(listIn(listIn(listIn(listIn(listIn(self(0))))))))), self(0))), api.ErrLong},
		{single(pi(listIn(self(0)), self(0)), n), api.ErrPositive}, {single(pis(app(ind(1, 0, lv()), self(0), n), pi(self(0), n), self(0))), api.ErrArity},
	} {
		d, e := nest.Unfold(decls, c.d)
		l, e2 := nest.Instances(decls, c.d)
		if e != c.e || e2 != c.e || e != api.OK && (!same(d, api.Decl{}) || l != nil) {
			t.Error(i, e, e2)
		}
	}
}

func TestP19_2(t *testing.T) {
	for i, d := range append(blocks(), nat()) {
		same, e := nest.Unfold(world(), d)
		want(t, "a block whose rules can be read", e, api.OK)
		want(t, "a block whose rules can be read", same, d)
		if l, _ := nest.Instances(world(), d); len(l) != 0 {
			t.Error("instances", i)
		}
	}
	for i, d := range nestedBlocks() {
		u, e := nest.Unfold(world(), d)
		if e != api.OK {
			t.Fatal(i, e)
		}
		again, _ := nest.Unfold(world(), u)
		want(t, "unfolded again", again, u)
		if _, e := split.Rules(u); e != api.OK {
			t.Error("rules", i, e)
		}
		if !strict.Positive(world(), d) {
			t.Error("strictly positive", i)
		}
		want(t, "the block", d, nestedBlocks()[i])
		apart(t, "Unfold", append([]api.Term{d.Ctors[0].Type}, d.Params...), append([]api.Term{u.Ctors[0].Type, u.Ctors[len(u.Ctors)-1].Type}, u.Params...)...)
		l, _ := nest.Instances(world(), d)
		apart(t, "Instances", []api.Term{d.Ctors[0].Type}, l[0].Heads...)
		want(t, "the block", d, nestedBlocks()[i])
	}
}
