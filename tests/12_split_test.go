package tests

import (
	"testing"

	"spandrel/api"
	"spandrel/split"
)

func plain(t api.Term) api.Arg { return api.Arg{Type: t} }

func recursive(m int, tele []api.Term, index ...api.Term) api.Arg {
	return api.Arg{Rec: true, Tele: tele, Member: m, Index: index}
}

func TestP12_1(t *testing.T) {
	n := ind(0, 0)
	rules, e := split.Rules(list())
	want(t, "list", e, api.OK)
	want(t, "list", rules, []api.Rule{{}, {Args: []api.Arg{plain(v(0)), recursive(0, nil)}}})
	rules, e = split.Rules(vec())
	want(t, "vec", e, api.OK)
	want(t, "vec", rules, []api.Rule{{Index: row(ctor(0, 0))}, {Args: []api.Arg{plain(n), plain(v(1)), recursive(0, nil, v(1))}, Index: row(app(ctor(0, 1), v(2)))}})
	two := func(c ...api.Ctor) api.Decl { return block(0, nil, lv(), members(row(n), nil), c...) }
	rules, e = split.Rules(two(ct(1, pis(pis(n, n, app(self(0), v(1))), self(1)))))
	want(t, "tele", e, api.OK)
	want(t, "tele", rules, []api.Rule{{Member: 1, Args: []api.Arg{recursive(0, row(n, n), v(1))}}})
	pi11 := func(k int, t, b api.Term) api.Term { return pis(append(times(k, t), b)...) }
	for i, c := range []struct {
		d api.Decl
		e api.Errno
	}{
		{axiom(0, n), api.ErrArg}, {api.Decl{}, api.ErrArg}, {block(0, nil, lv(), nil), api.OK},
		{two(ct(1, pi11(10, n, self(1)))), api.OK}, {two(ct(1, pi11(11, n, self(1)))), api.ErrLong}, {two(ct(1, pi11(11, n, n))), api.ErrLong},
		{two(ct(1, pi(pi11(6, n, self(1)), self(1)))), api.OK}, {two(ct(1, pi(pi11(7, n, self(1)), self(1)))), api.ErrLong}, {two(ct(1, pi(pi11(7, n, n), self(1)))), api.OK}, {two(ct(1, pi(pi11(7, self(1), self(1)), self(1)))), api.ErrLong},
		{two(ct(1, pis(pi(self(1), n), self(1)))), api.ErrPositive}, {two(ct(1, pi(pi(self(1), self(1)), self(1)))), api.ErrPositive}, {two(ct(1, pi(app(ind(1, 0), self(1)), self(1)))), api.ErrPositive}, {two(ct(1, pi(lam(n, self(1)), self(1)))), api.ErrPositive},
		{two(ct(1, pi(self(2), self(1)))), api.ErrPositive}, {two(ct(1, pi(self(-1), self(1)))), api.ErrPositive}, {two(ct(1, pi(app(self(0), self(1)), self(1)))), api.ErrPositive}, {two(ct(1, pi(app(self(1), self(1)), self(1)))), api.ErrPositive},
		{two(ct(1, pi(self(0), self(1)))), api.ErrArity}, {two(ct(1, pi(app(self(0), n, n), self(1)))), api.ErrArity}, {two(ct(1, pi(app(self(0), n), self(1)))), api.OK}, {two(ct(1, pi(app(self(1), n), self(1)))), api.ErrArity},
		{two(ct(1, self(0))), api.ErrArity}, {two(ct(1, app(self(0), n))), api.ErrArity}, {two(ct(0, app(self(0), n))), api.OK}, {two(ct(0, self(0))), api.ErrArity}, {two(ct(0, app(self(0), self(1)))), api.ErrArity}, {two(ct(0, n)), api.ErrArity}, {two(ct(7, self(1))), api.ErrArity}, {two(ct(-1, self(-1))), api.ErrArity}, {two(ct(2, self(2))), api.ErrArity},
		{two(ct(1, api.Term{})), api.ErrArity},
		{two(ct(1, pis(self(1), app(n, v(0)), self(1)))), api.ErrPositive}, {two(ct(1, pis(n, app(n, v(0)), self(1)))), api.OK}, {two(ct(1, pis(self(1), pi(v(0), self(1)), self(1)))), api.ErrPositive}, {two(ct(1, pis(self(1), app(self(0), v(0)), self(1)))), api.ErrPositive},
		{two(ct(1, pis(self(1), n, n, app(n, v(1)), self(1)))), api.OK}, {two(ct(1, pis(self(1), n, n, app(n, v(2)), self(1)))), api.ErrPositive}, {two(ct(1, pis(self(1), n, lam(n, v(1)), self(1)))), api.OK}, {two(ct(1, pis(self(1), n, lam(n, v(2)), self(1)))), api.ErrPositive},
		{two(ct(0, pis(self(1), app(self(0), v(0))))), api.ErrPositive}, {two(ct(0, pis(n, self(1), app(self(0), v(1))))), api.OK},
		{two(ct(0, pis(self(1), v(0)))), api.ErrArity}, {two(ct(1, pis(self(0), pi(self(1), n), self(1)))), api.ErrArity}, {two(ct(1, pis(pi(self(1), n), self(0), self(1)))), api.ErrPositive},
		{two(ct(1, self(0)), ct(1, pi11(11, n, n))), api.ErrArity}, {two(ct(1, self(1)), ct(1, pi11(11, n, n))), api.ErrLong},
	} {
		rules, e := split.Rules(c.d)
		if e != c.e || e != api.OK && rules != nil || e == api.OK && len(rules) != len(c.d.Ctors) {
			t.Error(i, e)
		}
	}
}

func TestP12_2(t *testing.T) {
	n := ind(0, 0)
	want(t, "Type", split.Type(api.Rule{}), self(0))
	want(t, "Type", split.Type(api.Rule{Member: 1, Args: []api.Arg{plain(n), recursive(2, row(n, n), v(0), v(1))}, Index: row(v(1))}), pis(n, pis(n, n, app(self(2), v(0), v(1))), app(self(1), v(1))))
	for i, c := range []struct {
		x    api.Term
		want bool
	}{{self(0), true}, {n, false}, {api.Term{}, false}, {lam(n, app(v(0), self(-3))), true}, {lam(self(1), n), true}, {lam(n, v(0)), false}, {api.Term{Kind: 99, Kids: row(self(0))}, true}} {
		if split.Self(c.x) != c.want {
			t.Error("Self", i)
		}
	}
}

// blocks are blocks of all sorts, over numbers (0) and lists (1).
func blocks() []api.Decl {
	n, u := ind(0, 0), lv(1, 0)
	odd := block(0, nil, lv(), members(row(n), row(n)),
		ct(0, app(self(0), ctor(0, 0))),
		ct(0, pis(n, app(self(1), v(0)), app(self(0), app(ctor(0, 1), v(1))))),
		ct(1, pis(n, app(self(0), v(0)), app(self(1), app(ctor(0, 1), v(1))))))
	trees := block(2, row(sort(1, 0), pi(v(0), sort(2, 0))), lv(1, 0, 2, 0), members(nil), ct(0, pis(v(1), pi(app(v(1), v(0)), self(0)), self(0))))
	equal := block(1, row(sort(1, 0), v(0)), lv(1, 0), members(row(v(1))), ct(0, app(self(0), v(0))))
	acc := block(2, row(sort(1, 0), pis(v(0), v(1), sort(2, 0))), lv(1, 0, 2, 0), members(row(v(1))),
		ct(0, pis(v(1), pis(v(2), app(v(2), v(0), v(1)), app(self(0), v(1))), app(self(0), v(1)))))
	both := block(0, nil, lv(), members(nil, nil), ct(0, self(0)), ct(0, pis(self(1), pi(n, self(0)), self(0))), ct(1, pis(self(0), n, self(1), self(1))))
	empty := block(0, nil, lv(), members(nil))
	boxed := block(1, row(sort(1, 0)), lv(1, 0), members(nil), ct(0, pis(app(ind(1, 0, u), v(0)), n, self(0))))
	pairs := block(2, row(sort(1, 0), pi(v(0), sort(2, 0))), lv(1, 0, 2, 0), members(nil), ct(0, pis(v(1), app(v(1), v(0)), self(0))))
	two := block(0, nil, lv(), members(row(n, n)), ct(0, pis(n, app(self(0), v(0), ctor(0, 0)))), ct(0, pis(n, n, app(self(0), v(1), v(0)), app(self(0), v(1), v(2)))))
	return []api.Decl{nat(), list(), vec(), odd, trees, equal, acc, both, empty, boxed, pairs, two}
}

func TestP12_3(t *testing.T) {
	for i, d := range blocks() {
		rules, e := split.Rules(d)
		if e != api.OK {
			t.Fatal(i, e)
		}
		again := d
		again.Ctors = nil
		for c, r := range rules {
			want(t, "Type", split.Type(r), d.Ctors[c].Type)
			again.Ctors = append(again.Ctors, ct(r.Member, split.Type(r)))
		}
		back, _ := split.Rules(again)
		want(t, "Rules", back, rules)
		for _, r := range rules {
			apart(t, "Type", row(d.Ctors[0].Type), split.Type(r))
			for _, a := range r.Args {
				apart(t, "Rules", row(d.Ctors[0].Type), append(append(a.Index, a.Tele...), a.Type)...)
			}
		}
		want(t, "the block", d, blocks()[i])
	}
}
