package tests

import (
	"testing"

	"spandrel/api"
	"spandrel/cenv"
	"spandrel/infer"
)

// natCore are core declarations that are right, one over the other.
func natCore() []api.Core {
	two, e0 := fin(2), elem(0, 2)
	b := func(x api.Term) api.Term { return cas(lam(two, sort()), x, fin(0), fin(1)) }
	none := lam(fin(0), cas(lam(fin(0), con(0)), v(0)))
	zero := sup(e0, app(lam(pi(b(e0), con(0)), v(0)), lam(b(e0), app(none, v(0)))))
	return []api.Core{
		{Type: sort(), Has: true, Body: tree(two, b(v(0)))},
		{Type: con(0), Has: true, Body: zero},
		{Type: pi(con(0), con(0)), Has: true, Body: lam(con(0), sup(elem(1, 2), lam(b(elem(1, 2)), v(1))))},
		{Levels: 1, Type: pi(sort(1, 0), pi(v(0), v(1))), Has: true, Body: lam(sort(1, 0), lam(v(0), v(0)))},
		{Type: con(0), Has: true, Body: app(con(3, lv()), con(0), app(con(2), con(1)))},
		{Levels: 2, Type: sort(1, 1, 2, 0)},
	}
}

func TestP10_1(t *testing.T) {
	l, left, e := cenv.Add(nil, api.Core{Type: sort(), Has: true, Body: fin(2)}, 4)
	if len(l) != 1 || left != 0 || e != api.OK {
		t.Error("Fin 2", left, e)
	}
	if l, left, e := cenv.Add(nil, api.Core{Type: sort(), Has: true, Body: fin(2)}, 3); l != nil || left != 0 || e != api.ErrFuel {
		t.Error("too little", left, e)
	}
	for i, c := range []struct {
		c    api.Core
		fuel int
		e    api.Errno
	}{
		{api.Core{Type: sort()}, 1, api.OK}, {api.Core{Type: sort()}, 0, api.ErrFuel}, {api.Core{Type: sort()}, -1, api.ErrArg}, {api.Core{Type: sort()}, api.MaxFuel + 1, api.ErrArg},
		{api.Core{Type: sort()}, api.MaxFuel, api.OK},
		{api.Core{Levels: -1, Type: sort()}, 9, api.ErrArg}, {api.Core{Levels: 9, Type: sort()}, 9, api.ErrArg}, {api.Core{Levels: 8, Type: sort(8, 0)}, 9, api.OK},
		{api.Core{Type: sort(), Body: fin(2)}, 9, api.ErrArg}, {api.Core{Type: sort(), Body: api.Term{At: 1}}, 9, api.ErrArg}, {api.Core{Type: sort(), Has: true}, 9, api.ErrScope},
		{api.Core{Type: con(0)}, 9, api.ErrScope}, {api.Core{Type: sort(1, 0)}, 9, api.ErrScope}, {api.Core{Type: elem(0, 1)}, 9, api.ErrSort}, {api.Core{Type: refl()}, 9, api.ErrBare},
		{api.Core{}, 9, api.ErrScope}, {api.Core{Type: fin(2), Has: true, Body: sort()}, 9, api.ErrType}, {api.Core{Type: fin(2), Has: true, Body: con(0)}, 9, api.ErrScope}, {api.Core{Levels: 99, Type: v(0)}, 9, api.ErrArg},
	} {
		l, left, e := cenv.Add(nil, c.c, c.fuel)
		if e != c.e || (e == api.OK) != (len(l) == 1) || e != api.OK && left != 0 {
			t.Error(i, e)
		}
	}
}

func TestP10_2(t *testing.T) {
	l := natCore()
	left, at, e := cenv.All(l, 10000)
	if at != 0 || e != api.OK || left <= 0 {
		t.Fatal(left, at, e)
	}
	spent := 10000 - left
	if left, at, e := cenv.All(l, spent); left != 0 || at != 0 || e != api.OK {
		t.Error("just enough", left, at, e)
	}
	if left, at, e := cenv.All(l, spent-1); left != 0 || at != len(l) || e != api.ErrFuel {
		t.Error("too little", left, at, e)
	}
	if left, at, e := cenv.All(nil, 7); left != 7 || at != 0 || e != api.OK {
		t.Error("none", left, at, e)
	}
	for _, fuel := range []int{-1, api.MaxFuel + 1} {
		if left, at, e := cenv.All(l, fuel); left != 0 || at != 0 || e != api.ErrArg {
			t.Error("ErrArg", fuel)
		}
	}
	for i := range l {
		broken := natCore()
		broken[i].Type = con(i)
		if left, at, e := cenv.All(broken, 10000); left != 0 || at != i+1 || e != api.ErrScope {
			t.Error("a constant of itself", i, at, e)
		}
		broken[i].Type = natCore()[i].Type
		broken[i].Levels = 9
		if _, at, e := cenv.All(broken, 10000); at != i+1 || e != api.ErrArg {
			t.Error("levels", i, at, e)
		}
	}
}

func TestP10_3(t *testing.T) {
	var l []api.Core
	left := 10000
	for i, c := range natCore() {
		alone, rest, e := cenv.Add(l, c, left)
		if e != api.OK {
			t.Fatal(i, e)
		}
		more := append(natCore()[:i:i], natCore()[5], natCore()[0])
		if i > 0 {
			if _, _, e := cenv.All(more, 10000); e != api.OK {
				t.Fatal("more", i, e)
			}
		}
		if _, rest2, e := cenv.Add(more, c, left); e != api.OK || rest2 != rest {
			t.Error("over more", i, e, left-rest2)
		}
		want(t, "Add", alone, natCore()[:i+1])
		l, left = alone, rest
		all, _, _ := cenv.All(l, 10000)
		want(t, "All costs as much", all, left)
	}
	two := app(con(2), app(con(2), con(1)))
	if _, e := infer.Check(l, 0, nil, two, con(0), 100); e != api.OK {
		t.Error("two", e)
	}
}

func TestCenvMemory(t *testing.T) {
	l := natCore()
	out, _, _ := cenv.Add(l[:5], l[5], 1000)
	for i := range out {
		spoil(out[i].Type)
		spoil(out[i].Body)
		out[i] = api.Core{}
	}
	want(t, "arguments", l, natCore())
}
