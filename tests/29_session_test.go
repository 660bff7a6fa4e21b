package tests

import (
	"sync"
	"testing"

	"spandrel/admit"
	"spandrel/api"
	"spandrel/carry"
	"spandrel/norm"
	"spandrel/sconv"
	"spandrel/session"
	"spandrel/shead"
)

// opened is a session with some fuel, that has admitted declarations.
func opened(t *testing.T, fuel int, decls ...api.Decl) *session.Session {
	t.Helper()
	s, e := session.New(fuel)
	if e != api.OK {
		t.Fatal("New", e)
	}
	for i, d := range decls {
		if e := s.Admit(d); e != api.OK {
			t.Fatal("not admitted", i, e)
		}
	}
	return s
}

func TestP29_1(t *testing.T) {
	for _, fuel := range []int{-1, api.MaxFuel + 1} {
		if s, e := session.New(fuel); s != nil || e != api.ErrArg {
			t.Error("New", fuel, e)
		}
	}
	for _, fuel := range []int{0, 1, api.MaxFuel} {
		s, e := session.New(fuel)
		if s == nil || e != api.OK {
			t.Fatal("New", fuel, e)
		}
		want(t, "New", s.Stat(), session.Stat{})
		want(t, "New", s.Env(), api.Env{})
	}
}

func TestP29_2(t *testing.T) {
	s := opened(t, 100000)
	want(t, "an axiom", s.Admit(axiom(0, sort())), api.OK)
	stat := s.Stat()
	if stat.Spent <= 0 || stat.Spent >= 100000 {
		t.Error("spent", stat)
	}
	stat.Spent = 0
	want(t, "an axiom", stat, session.Stat{Decls: 1, Core: 1, Calls: 1})
	want(t, "numbers want more", s.Admit(nat()), api.ErrFuel)
	s = opened(t, api.MaxFuel, world()...)
	want(t, "the environment", s.Env(), admitted(t, world()...))
	env := admitted(t, world()...)
	for i, c := range []struct {
		n int
		x api.Term
		e api.Errno
	}{
		{0, plus(number(1), number(1)), api.OK}, {1, ind(1, 0, lv(1, 0)), api.OK}, {0, ind(1, 0, lv(1, 0)), api.ErrShape}, {-1, number(0), api.ErrArg}, {9, number(0), api.ErrArg}, {9, v(0), api.ErrArg}, {8, sort(8, 0), api.OK}, {0, v(0), api.ErrShape}, {0, app(number(0), number(0)), api.ErrFunc},
	} {
		typ, e := s.Judge(c.n, c.x)
		if e != c.e || e != api.OK && !same(typ, api.Term{}) {
			t.Error(i, e)
		}
		if e == api.OK {
			judged, _, _ := admit.Judge(env, c.n, nil, c.x, api.MaxFuel)
			want(t, "Judge", typ, judged)
		}
	}
}

func TestP29_3(t *testing.T) {
	s, env := opened(t, 100000000, world()...), admitted(t, world()...)
	x, u := plus(double(number(1)), number(1)), lv(1, 0)
	h, e := s.Head(0, x)
	whnf, _, _ := shead.Whnf(env.Decls, x, api.MaxFuel)
	want(t, "Head", e, api.OK)
	want(t, "Head", h, whnf)
	y, e := s.Norm(0, x)
	normal, _, _ := norm.Norm(env.Core, carry.Term(env.Decls, env.At, x), api.MaxFuel)
	want(t, "Norm", e, api.OK)
	want(t, "Norm", y, normal)
	for i := range 5 {
		yes, e := s.Same(0, x, number(i))
		conv, _, _ := sconv.Conv(env.Decls, x, number(i), api.MaxFuel)
		want(t, "Same", e, api.OK)
		want(t, "Same", yes, conv)
		want(t, "Same", yes, i == 3)
	}
	for i, c := range []struct {
		n int
		x api.Term
		e api.Errno
	}{
		{-1, number(0), api.ErrArg}, {9, number(0), api.ErrArg}, {9, v(0), api.ErrArg}, {0, v(0), api.ErrShape}, {0, self(0), api.ErrShape}, {0, sort(1, 0), api.ErrShape}, {1, ind(1, 0, u), api.OK}, {0, fin(2), api.ErrShape}, {0, con(9), api.ErrShape}, {8, sort(8, 0), api.OK}, {0, app(number(0), number(0)), api.OK},
	} {
		h, e1 := s.Head(c.n, c.x)
		y, e2 := s.Norm(c.n, c.x)
		yes, e3 := s.Same(c.n, c.x, number(0))
		_, e4 := s.Same(c.n, number(0), c.x)
		if e1 != c.e || e2 != c.e || e3 != c.e || e4 != c.e || c.e != api.OK && (yes || !same(h, api.Term{}) || !same(y, api.Term{})) {
			t.Error(i, e1, e2, e3, e4)
		}
	}
	poor := opened(t, 2)
	again := lam(sort(), app(v(0), v(0)))
	_, e1 := poor.Head(0, app(again, again))
	_, e2 := poor.Norm(0, app(again, again))
	_, e3 := poor.Same(0, app(again, again), sort())
	want(t, "too little fuel", []api.Errno{e1, e2, e3}, []api.Errno{api.ErrFuel, api.ErrFuel, api.ErrFuel})
}

func TestP29_4(t *testing.T) {
	for i, s := range []*session.Session{nil, {}} {
		_, e1 := s.Judge(0, sort())
		_, e2 := s.Head(99, sort())
		_, e3 := s.Norm(0, v(0))
		yes, e4 := s.Same(0, sort(), sort())
		for _, e := range []api.Errno{s.Admit(nat()), e1, e2, e3, e4} {
			want(t, "no session", e, api.ErrNil)
		}
		if yes || !same(s.Env(), api.Env{}) || !same(s.Stat(), session.Stat{}) {
			t.Error("no session tells", i)
		}
	}
	s := opened(t, 1000, axiom(0, sort()))
	first := s.Stat().Spent
	for range 3 {
		s.Env()
		s.Stat()
	}
	want(t, "Env and Stat are not counted", s.Stat().Calls, 1)
	one := lam(sort(), v(0))
	x := app(one, con(0))
	if _, e := s.Head(0, x); e != api.OK {
		t.Fatal(e)
	}
	want(t, "a call", s.Stat(), session.Stat{Decls: 1, Core: 1, Calls: 2, Spent: first + 1})
	if _, e := s.Same(0, x, con(0)); e != api.OK {
		t.Fatal(e)
	}
	want(t, "a call", s.Stat(), session.Stat{Decls: 1, Core: 1, Calls: 3, Spent: first + 1 + 2})
	if yes, e := s.Same(0, sort(), con(0)); yes || e != api.OK {
		t.Fatal(e)
	}
	want(t, "an answer that is no is no failure", s.Stat(), session.Stat{Decls: 1, Core: 1, Calls: 4, Spent: first + 4})
	s.Admit(axiom(0, con(5)))
	s.Judge(0, v(3))
	s.Norm(-1, sort())
	want(t, "calls that fail spend all", s.Stat(), session.Stat{Decls: 1, Core: 1, Calls: 7, Failed: 3, Spent: first + 4 + 3000})
}

func TestP29_5(t *testing.T) {
	s := opened(t, 10000000, world()...)
	before := s.Env()
	s.Admit(axiom(0, v(0)))
	s.Judge(0, number(1))
	s.Norm(0, double(number(1)))
	want(t, "the environment", s.Env(), before)
	x, _ := s.Judge(0, double(number(1)))
	y, _ := s.Judge(0, double(number(1)))
	want(t, "asked again", y, x)
	env := s.Env()
	for i, d := range env.Decls {
		spoilDecl(d)
		env.Decls[i] = api.Decl{}
	}
	for i, c := range env.Core {
		spoil(c.Type)
		spoil(c.Body)
		env.Core[i] = api.Core{}
	}
	env.At[0] = 99
	want(t, "what is handed out", s.Env(), before)
	d := vec()
	if e := s.Admit(d); e != api.OK {
		t.Fatal(e)
	}
	spoilDecl(d)
	want(t, "what is handed in", s.Env().Decls[5], vec())
}

// TestSessionTogether holds that calls at one time are all counted, and that no declaration is lost.
func TestSessionTogether(t *testing.T) {
	s := opened(t, 100000)
	var all sync.WaitGroup
	for range 8 {
		all.Add(1)
		go func() {
			defer all.Done()
			for range 10 {
				s.Admit(axiom(0, sort()))
				s.Judge(0, sort())
				s.Stat()
				s.Env()
			}
		}()
	}
	all.Wait()
	stat := s.Stat()
	want(t, "together", []int{stat.Decls, stat.Core, stat.Calls, stat.Failed}, []int{80, 80, 160, 0})
}
