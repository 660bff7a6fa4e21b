package tests

import (
	"bytes"
	"math/rand"
	"testing"

	"spandrel/api"
	"spandrel/pack"
	"spandrel/term"
)

func axiom(levels int, typ api.Term) api.Decl {
	return api.Decl{Kind: api.DeclAxiom, Levels: levels, Type: typ}
}

func def(levels int, typ, body api.Term) api.Decl {
	return api.Decl{Kind: api.DeclDef, Levels: levels, Type: typ, Body: body}
}

// block is a block of levels, params, a sort, members by their rows, and constructors.
func block(levels int, params []api.Term, sort api.Level, members [][]api.Term, ctors ...api.Ctor) api.Decl {
	d := api.Decl{Kind: api.DeclBlock, Levels: levels, Params: params, Sort: sort, Ctors: ctors}
	for _, m := range members {
		d.Members = append(d.Members, api.Member{Index: m})
	}
	return d
}

func row(l ...api.Term) []api.Term { return l }

func members(l ...[]api.Term) [][]api.Term { return l }

func ct(m int, t api.Term) api.Ctor { return api.Ctor{Member: m, Type: t} }

// nat are the numbers: zero, successor.
func nat() api.Decl {
	return block(0, nil, lv(), members(nil), ct(0, self(0)), ct(0, pi(self(0), self(0))))
}

// list are the lists of a type of the universe u.
func list() api.Decl {
	return block(1, row(sort(1, 0)), lv(1, 0), members(nil), ct(0, self(0)), ct(0, pis(v(0), self(0), self(0))))
}

// vec are the vectors over numbers, which are the declaration 0.
func vec() api.Decl {
	n := ind(0, 0)
	return block(1, row(sort(1, 0)), lv(1, 0), members(row(n)),
		ct(0, app(self(0), ctor(0, 0))),
		ct(0, pis(n, v(1), app(self(0), v(1)), app(self(0), app(ctor(0, 1), v(2))))))
}

func times(n int, t api.Term) (l []api.Term) {
	for range n {
		l = append(l, t)
	}
	return l
}

func TestP3_1_Right(t *testing.T) {
	x := fin(2)
	good := block(1, row(x), lv(1, 0), members(row(x), nil), ct(1, x))
	with := func(change func(d *api.Decl)) api.Decl {
		d := block(1, row(x), lv(1, 0), members(row(x), nil), ct(1, x))
		change(&d)
		return d
	}
	for i, c := range []struct {
		d    api.Decl
		want bool
	}{
		{axiom(0, x), true}, {axiom(8, x), true}, {axiom(9, x), false}, {axiom(-1, x), false},
		{axiom(0, api.Term{}), false}, {def(0, x, x), true}, {def(0, x, api.Term{}), false}, {def(0, v(-1), x), false},
		{api.Decl{}, false}, {api.Decl{Kind: 4, Type: x}, false}, {api.Decl{Kind: api.DeclAxiom, Type: x, Body: x}, false},
		{api.Decl{Kind: api.DeclAxiom, Type: x, Params: row(x)}, false}, {api.Decl{Kind: api.DeclAxiom, Type: x, Sort: lv(1, 0)}, false},
		{api.Decl{Kind: api.DeclDef, Type: x, Body: x, Members: good.Members}, false}, {api.Decl{Kind: api.DeclDef, Type: x, Body: x, Ctors: good.Ctors}, false},
		{good, true}, {nat(), true}, {list(), true}, {vec(), true},
		{with(func(d *api.Decl) { d.Type = x }), false}, {with(func(d *api.Decl) { d.Body = x }), false},
		{with(func(d *api.Decl) { d.Type.Num = 1 }), false},
		{with(func(d *api.Decl) { d.Levels = 9 }), false}, {with(func(d *api.Decl) { d.Sort = lv(9, 0) }), true},
		{with(func(d *api.Decl) { d.Sort = lv(10, 0) }), false}, {with(func(d *api.Decl) { d.Sort = lv(1, 0, 0, 0) }), false},
		{with(func(d *api.Decl) { d.Params = times(6, x) }), true}, {with(func(d *api.Decl) { d.Params = times(7, x) }), false},
		{with(func(d *api.Decl) { d.Params[0] = v(-1) }), false},
		{with(func(d *api.Decl) { d.Members[1].Index = times(6, x) }), true}, {with(func(d *api.Decl) { d.Members[1].Index = times(7, x) }), false},
		{with(func(d *api.Decl) { d.Members[0].Index[0] = api.Term{} }), false},
		{with(func(d *api.Decl) { d.Members = nil; d.Ctors = nil }), false}, {with(func(d *api.Decl) { d.Members = make([]api.Member, 8) }), true},
		{with(func(d *api.Decl) { d.Members = make([]api.Member, 9) }), false}, {with(func(d *api.Decl) { d.Ctors[0].Member = 2 }), false},
		{with(func(d *api.Decl) { d.Ctors[0].Member = -1 }), false}, {with(func(d *api.Decl) { d.Ctors = nil }), true},
		{with(func(d *api.Decl) { d.Ctors[0].Type = api.Term{Kind: 30} }), false},
		{with(func(d *api.Decl) {
			for len(d.Ctors) < 16 {
				d.Ctors = append(d.Ctors, ct(0, x))
			}
		}), true},
		{with(func(d *api.Decl) {
			for len(d.Ctors) < 17 {
				d.Ctors = append(d.Ctors, ct(0, x))
			}
		}), false},
	} {
		if pack.Right(c.d) != c.want {
			t.Error(i)
		}
		b, ok := pack.PutDecl(c.d)
		if ok != c.want || ok != (len(b) > 0) {
			t.Error("PutDecl", i)
		}
	}
}

func TestP3_1_Put(t *testing.T) {
	for i, c := range []struct {
		x    api.Term
		want []byte
	}{
		{v(200), []byte{1, 0xC8, 1}},
		{v(0), []byte{1, 0}},
		{v(api.MaxNum), []byte{1, 0x80, 0x80, 0x40}},
		{sort(0, 1), []byte{2, 1, 0, 1}},
		{sort(), []byte{2, 0}},
		{con(3), []byte{3, 3, 0}},
		{con(3, lv(), lv(1, 200)), []byte{3, 3, 2, 0, 1, 1, 0xC8, 1}},
		{lam(fin(2), v(0)), []byte{5, 22, 2, 1, 0}},
		{rec(1, 2, lv()), []byte{10, 1, 2, 1, 0}},
		{self(4), []byte{11, 4}},
		{elem(1, 2), []byte{23, 1, 2}},
		{cas(v(0), v(2), v(1)), []byte{24, 1, 1, 0, 1, 1, 1, 2}},
		{refl(), []byte{20}},
		{v(-1), nil},
		{api.Term{}, nil},
	} {
		b, ok := pack.PutTerm(c.x)
		if !bytes.Equal(b, c.want) || ok != (c.want != nil) {
			t.Error(i, b, ok)
		}
	}
	for i, c := range []struct {
		d    api.Decl
		want []byte
	}{
		{axiom(2, refl()), []byte{1, 2, 20}},
		{def(0, refl(), v(1)), []byte{2, 0, 20, 1, 1}},
		{block(1, row(refl()), lv(1, 0), members(row(v(0)), nil), ct(1, self(1))), []byte{3, 1, 1, 20, 1, 1, 0, 2, 1, 1, 0, 0, 1, 1, 11, 1}},
	} {
		if b, ok := pack.PutDecl(c.d); !bytes.Equal(b, c.want) || !ok {
			t.Error(i, b, ok)
		}
	}
	var all []api.Decl
	for range 200 {
		all = append(all, axiom(0, refl()))
	}
	if b, ok := pack.PutAll(all...); !ok || len(b) != 600 {
		t.Error("200")
	}
	if b, ok := pack.PutAll(append(all, all[0])...); ok || b != nil {
		t.Error("201")
	}
	if b, ok := pack.PutAll(all[0], axiom(-1, refl())); ok || b != nil {
		t.Error("one that is not right")
	}
	if b, ok := pack.PutAll(); !ok || len(b) != 0 {
		t.Error("none")
	}
	long := bytes.Repeat([]byte{1, 0, 20}, 201)
	if l, ok := pack.GetAll(long[:600]); !ok || len(l) != 200 {
		t.Error("200 got")
	}
	if l, ok := pack.GetAll(long); ok || l != nil {
		t.Error("201 got")
	}
	if l, ok := pack.GetAll(nil); !ok || len(l) != 0 {
		t.Error("none got")
	}
}

func TestP3_2(t *testing.T) {
	deep := func(n int) []byte { return append(bytes.Repeat([]byte{14}, n-1), 20) }
	for i, c := range []struct {
		b []byte
		n int
	}{
		{nil, 0}, {[]byte{0}, 0}, {[]byte{25, 0}, 0}, {[]byte{20, 20}, 1},
		{[]byte{1, 0x80, 0}, 0}, {[]byte{1, 0x80}, 0}, {[]byte{0x81, 0, 0}, 0}, {[]byte{1, 0x80, 0x80, 0x40}, 4},
		{[]byte{1, 0x81, 0x80, 0x40}, 0}, {[]byte{1, 0xff, 0xff, 0xff, 0xff, 0xff, 0xff, 0xff, 0xff, 0xff, 0x01}, 0},
		{[]byte{2, 2, 1, 0, 1, 1}, 0}, {[]byte{2, 1, 10, 0}, 0}, {[]byte{2, 10}, 0}, {[]byte{3, 0, 9}, 0},
		{[]byte{24, 0x80, 0x80, 0x40, 20}, 0}, {[]byte{24, 0, 20, 20}, 4}, {[]byte{24, 0, 20}, 0},
		{deep(400), 400}, {deep(401), 0}, {bytes.Repeat([]byte{14}, 1000000), 0},
	} {
		x, n := pack.GetTerm(c.b)
		if n != c.n || n == 0 && !same(x, api.Term{}) {
			t.Error(i, n)
		}
	}
	broadBytes, ok := pack.PutTerm(broad(20000))
	if _, n := pack.GetTerm(broadBytes); !ok || n != len(broadBytes) {
		t.Error("20000 nodes")
	}
	for i, b := range [][]byte{{}, {4, 0, 20}, {1, 9, 20}, {1, 0}, {2, 0, 20}, {3, 0, 7}, {3, 0, 0, 0, 0, 0}, {3, 0, 0, 0, 9}, {3, 0, 0, 0, 1, 0, 1, 1, 20}, {3, 0, 0, 0, 1, 0, 17}} {
		if d, n := pack.GetDecl(b); n != 0 || !same(d, api.Decl{}) {
			t.Error("GetDecl", i)
		}
	}
	if _, ok := pack.GetAll([]byte{1, 0, 20, 1}); ok {
		t.Error("GetAll of bytes that are left")
	}
}

// anyDecl is a right declaration.
func anyDecl(r *rand.Rand) api.Decl {
	few := func(n int) (l []api.Term) {
		for range r.Intn(n) {
			l = append(l, anyTerm(r, 3, 300))
		}
		return l
	}
	switch r.Intn(3) {
	case 0:
		return axiom(r.Intn(9), anyTerm(r, 4, 300))
	case 1:
		return def(r.Intn(9), anyTerm(r, 4, 300), anyTerm(r, 4, 300))
	}
	d := block(r.Intn(9), few(4), lv(1, r.Intn(300)), nil)
	for range 1 + r.Intn(3) {
		d.Members = append(d.Members, api.Member{Index: few(3)})
	}
	for range r.Intn(4) {
		d.Ctors = append(d.Ctors, ct(r.Intn(len(d.Members)), anyTerm(r, 3, 300)))
	}
	return d
}

func TestP3_3(t *testing.T) {
	r := chance(3)
	for range 2000 {
		x := anyTerm(r, 5, 400)
		b, ok := pack.PutTerm(x)
		got, n := pack.GetTerm(append(bytes.Clone(b), byte(r.Intn(256)), byte(r.Intn(256))))
		if !ok || n != len(b) {
			t.Fatal("GetTerm", x)
		}
		want(t, "GetTerm", got, x)
		decls := []api.Decl{anyDecl(r), anyDecl(r), anyDecl(r)}
		all, ok := pack.PutAll(decls...)
		back, ok2 := pack.GetAll(all)
		if !ok || !ok2 {
			t.Fatal("GetAll", decls)
		}
		want(t, "GetAll", back, decls)
		first, _ := pack.PutDecl(decls[0])
		d, n := pack.GetDecl(all)
		want(t, "GetDecl", d, decls[0])
		want(t, "GetDecl", n, len(first))
		if _, n := pack.GetTerm(b[:r.Intn(len(b))]); n != 0 {
			t.Fatal("the beginning of a term's bytes is one's", x)
		}
		if len(b) > 0 {
			b[r.Intn(len(b))] = byte(r.Intn(256))
		}
		if y, n := pack.GetTerm(b); n > 0 {
			again, ok := pack.PutTerm(y)
			if !ok || !bytes.Equal(again, b[:n]) || !term.Right(y) {
				t.Fatal("two ways to write", y)
			}
		}
		all[r.Intn(len(all))] = byte(r.Intn(256))
		if l, ok := pack.GetAll(all); ok {
			if again, ok := pack.PutAll(l...); !ok || !bytes.Equal(again, all) {
				t.Fatal("two ways to write declarations", l)
			}
		}
	}
}
