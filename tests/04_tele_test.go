package tests

import (
	"testing"

	"spandrel/api"
	"spandrel/tele"
	"spandrel/term"
)

func TestP4_1(t *testing.T) {
	a, b, x := con(1), con(2), v(0)
	want(t, "Pis", tele.Pis(row(a, b), x), pi(a, pi(b, x)))
	want(t, "Pis", tele.Pis(nil, x), x)
	want(t, "Lams", tele.Lams(row(a, b), x), lam(a, lam(b, x)))
	want(t, "Lams", tele.Lams(nil, x), x)
	want(t, "Apps", tele.Apps(x, a, b), node(api.KApp, node(api.KApp, x, a), b))
	want(t, "Apps", tele.Apps(x), x)
	want(t, "Vars", tele.Vars(2, 1), row(v(2), v(1)))
	want(t, "Vars", tele.Vars(3, 0), row(v(2), v(1), v(0)))
	want(t, "Vars", tele.Vars(0, 4), row())
	want(t, "Vars", tele.Vars(-1, 4), row())
	want(t, "Own", tele.Own(2), []api.Level{lv(1, 0), lv(2, 0)})
	want(t, "Own", tele.Own(0), []api.Level(nil))
	want(t, "Own", tele.Own(-3), []api.Level(nil))
	want(t, "Sort", tele.Sort(lv(1, 3)), sort(1, 3))
	want(t, "Sort", tele.Sort(lv(0, 0)), sort(0, 0))
}

func TestP4_2(t *testing.T) {
	f, a, b := con(0), con(1), con(2)
	head, args := tele.Spine(app(f, a, b))
	want(t, "Spine", head, f)
	want(t, "Spine", args, row(a, b))
	odd := node(api.KApp, f, a, b)
	head, args = tele.Spine(node(api.KApp, odd, a))
	want(t, "Spine of a KApp of three kids", head, odd)
	want(t, "Spine of a KApp of three kids", args, row(a))
	head, args = tele.Spine(lam(a, app(f, a)))
	want(t, "Spine", head, lam(a, app(f, a)))
	want(t, "Spine", args, row())
	x := pi(a, pi(b, lam(a, pi(b, f))))
	want(t, "Count", tele.Count(x), 2)
	want(t, "Count", tele.Count(f), 0)
	want(t, "Count", tele.Count(pi(a, node(api.KPi, a))), 1)
	want(t, "Count", tele.Count(node(api.KPi, a, b, f)), 0)
	for n, w := range [][]api.Term{{}, {a}, {a, b}} {
		l, rest, ok := tele.Open(x, n)
		want(t, "Open", ok, true)
		want(t, "Open", l, w)
		want(t, "Open", tele.Pis(l, rest), x)
	}
	for _, n := range []int{-1, 3, 1000} {
		l, rest, ok := tele.Open(x, n)
		want(t, "Open", ok, false)
		want(t, "Open", l, row())
		want(t, "Open", rest, api.Term{})
	}
}

func TestP4_3(t *testing.T) {
	want(t, "Lifts", tele.Lifts(row(v(0), v(0), v(1)), 5, 0), row(v(5), v(0), v(1)))
	want(t, "Lifts", tele.Lifts(row(v(0), v(1), v(3)), 5, 1), row(v(0), v(1), v(8)))
	want(t, "Lifts", tele.Lifts(nil, 5, 1), row())
	a := app(con(9), v(0))
	want(t, "Puts", tele.Puts(row(v(0), v(0), v(2), v(4)), a), row(a, v(0), app(con(9), v(2)), v(3)))
	want(t, "Puts", tele.Puts(row(v(0), v(1), v(3), v(5)), con(1), con(2)), row(con(2), con(2), con(1), v(3)))
	want(t, "Puts", tele.Puts(row(v(0), v(1))), row(v(0), v(1)))
	want(t, "Puts", tele.Puts(nil, a), row())
	want(t, "Puts of a row of KPi's", tele.Puts(row(pi(v(0), v(0)), pi(v(0), v(2))), a), row(pi(a, v(0)), pi(v(0), app(con(9), v(2)))))
}

func TestP4_4(t *testing.T) {
	r := chance(4)
	for range 2000 {
		var l, args, by []api.Term
		for range r.Intn(5) {
			l = append(l, anyTerm(r, 4, 7))
			args = append(args, anyTerm(r, 3, 7))
			by = append(by, anyTerm(r, 3, 7))
		}
		b := anyTerm(r, 3, 7)
		for b.Kind == api.KApp || b.Kind == api.KPi {
			b = anyTerm(r, 3, 7)
		}
		x := tele.Pis(l, b)
		row, rest, ok := tele.Open(x, len(l))
		want(t, "Open of Pis", ok, true)
		want(t, "Open of Pis", row, l)
		want(t, "Open of Pis", rest, b)
		want(t, "Count of Pis", tele.Count(x), len(l))
		head, back := tele.Spine(tele.Apps(b, args...))
		want(t, "Spine of Apps", head, b)
		want(t, "Spine of Apps", back, args)
		put, _, _ := tele.Open(term.Put(x, by...), len(l))
		want(t, "Puts", tele.Puts(l, by...), put)
		lifted, _, _ := tele.Open(term.Lift(x, 3, 2), len(l))
		want(t, "Lifts", tele.Lifts(l, 3, 2), lifted)
	}
}

func TestTeleMemory(t *testing.T) {
	x := sort(1, 1)
	one, two := app(x, con(1, lv(1, 1))), pi(x, app(v(0), x))
	args := []api.Term{one, two}
	apart(t, "Pis", args, tele.Pis(args, one))
	apart(t, "Lams", args, tele.Lams(args, one))
	apart(t, "Apps", args, tele.Apps(one, args...))
	apart(t, "Lifts", args, tele.Lifts(args, 1, 0)...)
	apart(t, "Puts", args, tele.Puts(args, x)...)
	head, spine := tele.Spine(one)
	apart(t, "Spine", args, append(spine, head)...)
	l, rest, _ := tele.Open(two, 1)
	apart(t, "Open", args, append(l, rest)...)
	u := lv(1, 1)
	s := tele.Sort(u)
	s.Levels[0].Parts[0].Plus = 9
	want(t, "Sort", u, lv(1, 1))
}
