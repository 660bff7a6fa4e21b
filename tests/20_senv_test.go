package tests

import (
	"testing"

	"spandrel/api"
	"spandrel/nest"
	"spandrel/rect"
	"spandrel/senv"
	"spandrel/shead"
	"spandrel/sinfer"
)

func TestP20_1(t *testing.T) {
	n := ind(0, 0)
	two := axiom(0, sort())
	var full []api.Decl
	for range 200 {
		full = append(full, two)
	}
	for i, c := range []struct {
		decls []api.Decl
		d     api.Decl
		fuel  int
		e     api.Errno
	}{
		{nil, nat(), 100, api.OK}, {nil, nat(), 6, api.OK}, {nil, nat(), 5, api.ErrFuel}, {nil, nat(), -1, api.ErrArg}, {nil, nat(), api.MaxFuel + 1, api.ErrArg}, {nil, nat(), api.MaxFuel, api.OK},
		{full, two, 100, api.ErrFull}, {full[:199], two, 100, api.OK}, {full, two, -1, api.ErrArg}, {full, api.Decl{}, 100, api.ErrFull},
		{world(), def(0, n, sort()), 100, api.ErrType}, {world(), def(0, n, number(3)), 100, api.OK}, {world(), def(0, number(3), number(3)), 100, api.ErrSort}, {world(), axiom(0, number(3)), 100, api.ErrSort}, {world(), axiom(0, n), 100, api.OK},
		{world(), axiom(1, sort(1, 1000)), 100, api.ErrLevel}, {world(), axiom(0, app(n, n)), 100, api.ErrFunc}, {world(), axiom(0, con(5)), 100, api.ErrShape}, {world(), axiom(8, n), 100, api.ErrShape}, {world(), def(0, n, v(0)), 100, api.ErrShape}, {world(), api.Decl{}, 100, api.ErrShape}, {world(), api.Decl{Kind: 4, Type: n}, 100, api.ErrShape},
		{world(), api.Decl{Kind: api.DeclAxiom, Type: n, Body: n}, 100, api.ErrShape}, {world(), single(pi(fin(2), self(0))), 100, api.ErrShape}, {world(), rose(), 1000, api.OK}, {world(), single(pi(pi(self(0), n), self(0))), 100, api.ErrPositive}, {world(), single(pi(app(ind(1, 0, lv()), self(0), n), self(0))), 100, api.ErrArity},
		{world(), single(pi(sort(), self(0))), 100, api.ErrLevel}, {world(), single(pis(append(times(11, n), self(0))...)), 100, api.ErrLong}, {world(), def(0, pi(n, n), lam(n, plus(v(0), v(0)))), 1000, api.OK}, {world(), def(0, pi(n, n), lam(n, v(0))), 3, api.ErrFuel},
	} {
		out, left, e := senv.Add(c.decls, c.d, c.fuel)
		if e != c.e || e != api.OK && (left != 0 || out != nil) || e == api.OK && len(out) != len(c.decls)+1 {
			t.Error(i, e)
		}
		if e == api.OK {
			whole := c.d
			if c.d.Kind == api.DeclBlock {
				whole, _ = nest.Unfold(c.decls, c.d)
			}
			want(t, "Add", out, append(c.decls[:len(c.decls):len(c.decls)], whole))
			for _, d := range out {
				spoilDecl(d)
			}
		}
	}
	want(t, "numbers", nat(), block(0, nil, lv(), members(nil), ct(0, self(0)), ct(0, pi(self(0), self(0)))))
}

// spoilDecl writes over all that a declaration's lists hold.
func spoilDecl(d api.Decl) {
	spoil(api.Term{Kids: append([]api.Term{d.Type, d.Body}, d.Params...)})
	for i := range d.Members {
		spoil(api.Term{Kids: d.Members[i].Index})
		d.Members[i] = api.Member{}
	}
	for i := range d.Ctors {
		spoil(d.Ctors[i].Type)
		d.Ctors[i] = api.Ctor{Member: 99}
	}
	for i := range d.Sort.Parts {
		d.Sort.Parts[i].Plus = 99
	}
}

func TestP20_2(t *testing.T) {
	left, at, e := senv.All(world(), 10000)
	if left <= 0 || at != 0 || e != api.OK {
		t.Fatal(left, at, e)
	}
	spent := 10000 - left
	if left, at, e := senv.All(world(), spent); left != 0 || at != 0 || e != api.OK {
		t.Error("just enough", left, at, e)
	}
	if left, at, e := senv.All(world(), spent-1); left != 0 || at != 5 || e != api.ErrFuel {
		t.Error("too little", left, at, e)
	}
	for _, fuel := range []int{-1, api.MaxFuel + 1} {
		if left, at, e := senv.All(world(), fuel); left != 0 || at != 0 || e != api.ErrArg {
			t.Error("ErrArg", left, at, e)
		}
	}
	if left, at, e := senv.All(nil, 5); left != 5 || at != 0 || e != api.OK {
		t.Error("none", left, at, e)
	}
	for i := range world() {
		broken := world()
		broken[i] = axiom(0, con(i))
		if left, at, e := senv.All(broken, 10000); left != 0 || at != i+1 || e != api.ErrShape {
			t.Error("broken", i, left, at, e)
		}
	}
	var many []api.Decl
	for range 201 {
		many = append(many, axiom(0, sort()))
	}
	if left, at, e := senv.All(many, 1000); left != 799 || at != 0 || e != api.OK {
		t.Error("more than 200", left, at, e)
	}
}

// accepted are all declarations of the tests, accepted one by one.
func accepted(t *testing.T) []api.Decl {
	t.Helper()
	var decls []api.Decl
	for i, d := range append(append(world(), blocks()[3:]...), nestedBlocks()...) {
		next, _, e := senv.Add(decls, d, 100000)
		if e != api.OK {
			t.Fatal(i, e)
		}
		decls = next
	}
	return decls
}

func TestP20_3(t *testing.T) {
	decls := accepted(t)
	left, at, e := senv.All(decls, 1000000)
	if at != 0 || e != api.OK {
		t.Fatal("accepted ones", at, e)
	}
	spent := 0
	for i, d := range decls {
		_, rest, e := senv.Add(decls[:i], d, 1000000)
		over := append(decls[:i:i], decls[0], axiom(0, sort()))
		if _, rest2, e2 := senv.Add(over, d, 1000000); d.Kind != api.DeclBlock && (e2 != e || rest2 != rest) {
			t.Error("over more", i)
		}
		spent += 1000000 - rest
	}
	want(t, "together", 1000000-left, spent)
	for num, d := range decls {
		if d.Kind != api.DeclBlock {
			continue
		}
		for m := range d.Members {
			x := rect.Rec(d, readRules(d), num, m)
			for steps := true; steps; x, steps = shead.Step(decls, x) {
				if _, _, e := sinfer.Level(decls, d.Levels+1, nil, x, 1000000); e != api.OK {
					t.Error("a type that is none", num, e)
				}
			}
		}
	}
}
