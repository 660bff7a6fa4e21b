package tests

import (
	"testing"

	"spandrel/api"
	"spandrel/arity"
	"spandrel/rect"
	"spandrel/sinfer"
)

func TestP17_1(t *testing.T) {
	n, su := ind(0, 0), sort(1, 0)
	decls := world()
	if left, e := arity.Block(nil, nat(), 100); e != api.OK || left != 100-2-2-2 {
		t.Error("numbers", left, e)
	}
	takes := func(s ...int) api.Decl { return block(0, nil, lv(s...), members(nil), ct(0, pi(sort(), self(0)))) }
	for i, c := range []struct {
		d    api.Decl
		fuel int
		e    api.Errno
	}{
		{takes(), 100, api.ErrLevel}, {takes(0, 1), 100, api.OK}, {takes(0, 2), 100, api.OK}, {takes(0, 999), 100, api.OK}, {takes(0, 1000), 100, api.ErrLevel},
		{takes(), -1, api.ErrArg}, {takes(), api.MaxFuel + 1, api.ErrArg}, {takes(0, 1), api.MaxFuel, api.OK}, {takes(0, 1), 0, api.ErrFuel}, {axiom(0, sort()), -1, api.ErrArg},
		{axiom(0, sort()), 100, api.ErrShape}, {api.Decl{}, 100, api.ErrShape}, {block(0, nil, lv(), nil), 100, api.ErrShape}, {block(0, row(v(0)), lv(), members(nil)), 100, api.ErrShape},
		{block(0, nil, lv(0, 1000), members(nil), ct(0, sort())), 100, api.ErrArity}, {block(0, nil, lv(0, 1000), members(nil)), 100, api.ErrLevel},
		{block(0, nil, lv(), members(nil), ct(0, pi(pi(self(0), n), self(0)))), 100, api.ErrPositive}, {block(0, nil, lv(), members(nil), ct(0, pi(app(ind(1, 0, lv()), self(0)), self(0)))), 100, api.ErrPositive},
		{block(0, row(ctor(0, 0)), lv(), members(nil)), 100, api.ErrSort}, {block(0, row(app(n, n)), lv(), members(nil)), 100, api.ErrFunc}, {block(1, row(sort(1, 1000)), lv(), members(nil)), 100, api.ErrLevel},
		{block(0, row(sort()), lv(), members(row(v(0)))), 100, api.OK}, {block(0, row(sort(0, 1)), lv(), members(row(v(0)))), 100, api.ErrLevel}, {block(0, nil, lv(), members(nil, row(ctor(0, 0)))), 100, api.ErrSort}, {block(0, nil, lv(), members(row(sort()))), 100, api.ErrLevel}, {block(0, nil, lv(0, 1), members(row(sort()))), 100, api.OK},
		{block(1, row(su), lv(), members(nil), ct(0, pi(v(0), self(0)))), 100, api.ErrLevel}, {block(1, row(su), lv(1, 0), members(nil), ct(0, pi(v(0), self(0)))), 100, api.OK},
		{block(0, nil, lv(), members(row(n)), ct(0, app(self(0), sort()))), 100, api.ErrType}, {block(0, nil, lv(), members(row(n)), ct(0, app(self(0), ctor(0, 0)))), 100, api.OK}, {block(0, nil, lv(), members(row(n)), ct(0, pis(app(self(0), sort()), app(self(0), ctor(0, 0))))), 100, api.ErrType},
		{block(0, nil, lv(), members(nil), ct(0, pis(ctor(0, 0), self(0)))), 100, api.ErrSort}, {block(0, nil, lv(), members(nil), ct(0, pis(ctor(5, 0), self(0)))), 100, api.ErrShape},
		{block(0, nil, lv(), members(nil), ct(0, pis(pi(n, self(0)), n, self(0)))), 100, api.OK}, {block(0, nil, lv(), members(nil), ct(0, pis(pi(sort(), self(0)), self(0)))), 100, api.ErrLevel},
	} {
		left, e := arity.Block(decls, c.d, c.fuel)
		if e != c.e || e != api.OK && left != 0 {
			t.Error(i, e)
		}
	}
	for i, d := range blocks()[2:] {
		if _, e := arity.Block(decls, d, 10000); e != api.OK {
			t.Error("blocks", i, e)
		}
	}
}

func TestP17_2(t *testing.T) {
	decls := world()
	for i, d := range blocks() {
		left, e := arity.Block(decls, d, 10000)
		if e != api.OK {
			t.Fatal(i, e)
		}
		if more, e := arity.Block(decls, d, 10100); e != api.OK || more != left+100 {
			t.Error("more fuel", i)
		}
		if rest, e := arity.Block(decls, d, 10000-left); e != api.OK || rest != 0 {
			t.Error("just enough", i)
		}
		if rest, e := arity.Block(decls, d, 10000-left-1); left < 10000 && (e != api.ErrFuel || rest != 0) {
			t.Error("too little", i)
		}
		num := len(decls)
		over := append(world(), d)
		for m := range d.Members {
			for _, typ := range []api.Term{rect.Member(d, m), rect.Rec(d, readRules(d), num, m)} {
				if _, _, e := sinfer.Level(over, d.Levels+1, nil, typ, 100000); e != api.OK {
					t.Error("no type", i, e)
				}
			}
		}
		for c := range d.Ctors {
			if _, _, e := sinfer.Level(over, d.Levels, nil, rect.Ctor(d, num, c), 100000); e != api.OK {
				t.Error("no constructor's type", i, e)
			}
		}
	}
	want(t, "the declarations", decls, world())
}
