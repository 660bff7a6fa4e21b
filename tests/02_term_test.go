package tests

import (
	"math/rand"
	"testing"

	"spandrel/api"
	"spandrel/level"
	"spandrel/term"
)

// tableRow is what the chapter's table says of a kind: Num, At, the least and the most levels, kids (-1: At and 2), the kid below the binder (-1: none).
type tableRow struct {
	kind      api.TermKind
	num, at   bool
	low, high int
	kids, bnd int
}

func table() []tableRow {
	return []tableRow{
		{api.KVar, true, false, 0, 0, 0, -1}, {api.KSort, false, false, 1, 1, 0, -1}, {api.KConst, true, false, 0, 8, 0, -1},
		{api.KPi, false, false, 0, 0, 2, 1}, {api.KLam, false, false, 0, 0, 2, 1}, {api.KApp, false, false, 0, 0, 2, -1},
		{api.KLet, false, false, 0, 0, 3, 2}, {api.KInd, true, true, 0, 8, 0, -1}, {api.KCtor, true, true, 0, 8, 0, -1},
		{api.KRec, true, true, 0, 10, 0, -1}, {api.KSelf, false, true, 0, 0, 0, -1}, {api.KSigma, false, false, 0, 0, 2, 1},
		{api.KPair, false, false, 0, 0, 2, -1}, {api.KFst, false, false, 0, 0, 1, -1}, {api.KSnd, false, false, 0, 0, 1, -1},
		{api.KTree, false, false, 0, 0, 2, 1}, {api.KSup, false, false, 0, 0, 2, -1}, {api.KTreeRec, false, false, 0, 0, 5, 1},
		{api.KId, false, false, 0, 0, 3, -1}, {api.KRefl, false, false, 0, 0, 0, -1}, {api.KJ, false, false, 0, 0, 6, -1},
		{api.KFin, true, false, 0, 0, 0, -1}, {api.KElem, true, true, 0, 0, 0, -1}, {api.KCase, false, true, 0, 0, -1, -1},
	}
}

// anyTerm is a right term of a kind of the table, deep at most so.
func anyTerm(r *rand.Rand, deep, vars int) api.Term {
	rows := table()
	row := rows[r.Intn(len(rows))]
	for deep < 2 && row.kids != 0 {
		row = rows[r.Intn(len(rows))]
	}
	t := api.Term{Kind: row.kind}
	if row.num {
		t.Num = r.Intn(vars)
	}
	if row.at {
		t.At = r.Intn(3)
	}
	for range row.low + r.Intn(min(row.high-row.low, 2)+1) {
		t.Levels = append(t.Levels, lv(1+r.Intn(3), r.Intn(3)))
	}
	kids := row.kids
	if kids < 0 {
		kids = t.At + 2
	}
	for range kids {
		t.Kids = append(t.Kids, anyTerm(r, deep-1, vars))
	}
	return t
}

// chain is a term so deep.
func chain(deep int) api.Term {
	t := fin(2)
	for range deep - 1 {
		t = fst(t)
	}
	return t
}

// broad is a term of so many nodes.
func broad(nodes int) api.Term {
	t := api.Term{Kind: api.KCase, At: nodes - 3}
	for range nodes - 1 {
		t.Kids = append(t.Kids, refl())
	}
	return t
}

func TestP2_1_Right(t *testing.T) {
	for _, row := range table() {
		for kids := range 8 {
			for levels := range 12 {
				for _, num := range []int{-1, 0, 1, api.MaxNum, api.MaxNum + 1} {
					for _, at := range []int{-1, 0, 1, 3} {
						x := api.Term{Kind: row.kind, Num: num, At: at}
						for range kids {
							x.Kids = append(x.Kids, refl())
						}
						for range levels {
							x.Levels = append(x.Levels, lv(0, 1, 9, 2))
						}
						wants := row.kids == kids || row.kids < 0 && kids == at+2
						right := wants && levels >= row.low && levels <= row.high
						right = right && (num == 0 || row.num && num > 0 && num <= api.MaxNum) && (at == 0 || row.at && at > 0)
						if term.Right(x) != right {
							t.Fatal(x, !right)
						}
					}
				}
			}
		}
	}
	for i, c := range []struct {
		x    api.Term
		want bool
	}{
		{api.Term{}, false},
		{api.Term{Kind: 25}, false},
		{api.Term{Kind: -1}, false},
		{sort(10, 0), false},
		{sort(9, 1000), true},
		{sort(9, 1001), false},
		{sort(2, 0, 1, 0), false},
		{fst(sort(2, 0, 1, 0)), false},
		{elem(0, api.MaxNum), true},
		{elem(0, api.MaxNum+1), false},
		{chain(400), true},
		{chain(401), false},
		{chain(300000), false},
		{broad(20000), true},
		{broad(20001), false},
	} {
		if term.Right(c.x) != c.want {
			t.Error(i)
		}
	}
	many := refl()
	for range 390 {
		many = pair(many, many)
	}
	if term.Right(many) {
		t.Error("a term of more nodes than can be counted")
	}
}

func TestP2_1_Binds(t *testing.T) {
	for _, row := range table() {
		for kid := -2; kid < 8; kid++ {
			if term.Binds(row.kind, kid) != (kid >= 0 && kid == row.bnd) {
				t.Error(row.kind, kid)
			}
		}
	}
	for _, k := range []api.TermKind{-1, 0, 25, 1000} {
		if term.Binds(k, 1) || term.Binds(k, -1) {
			t.Error(k)
		}
	}
	for i, c := range []struct {
		x    api.Term
		want int
	}{{api.Term{}, 1}, {v(3), 1}, {lam(fin(2), v(0)), 3}, {app(v(0), v(1), v(2)), 5}, {broad(77), 77}} {
		if term.Size(c.x) != c.want {
			t.Error(i)
		}
	}
}

func TestP2_2(t *testing.T) {
	x := lam(v(0), app(v(0), v(1), v(3)))
	want(t, "Lift", term.Lift(x, 5, 0), lam(v(5), app(v(0), v(6), v(8))))
	want(t, "Lift", term.Lift(x, 5, 1), lam(v(0), app(v(0), v(1), v(8))))
	want(t, "Lift", term.Lift(x, 0, 0), x)
	want(t, "Lift", term.Lift(lam(v(4), v(5)), -2, 3), lam(v(2), v(3)))
	want(t, "Lift", term.Lift(let(v(0), v(0), v(1)), 1, 0), let(v(1), v(1), v(2)))
	want(t, "Lift", term.Lift(treeRec(v(0), v(1), v(0), v(0), v(0)), 1, 0), treeRec(v(1), v(2), v(1), v(1), v(1)))
	want(t, "Lift", term.Lift(jay(v(0), v(1), v(2), v(0), v(0), v(0)), 1, 1), jay(v(0), v(2), v(3), v(0), v(0), v(0)))
	wrong := api.Term{Kind: api.KVar, Num: 0, Kids: []api.Term{v(0), v(1)}}
	want(t, "Lift", term.Lift(wrong, 1, 0), api.Term{Kind: api.KVar, Num: 1, Kids: []api.Term{v(1), v(2)}})
	want(t, "Lift", term.Lift(v(-1), 1, -5), v(-1))
	for i, c := range []struct {
		from, to int
		want     bool
	}{{0, 1, true}, {1, 2, false}, {2, 3, true}, {1, 3, true}, {3, 9, false}, {0, 0, false}, {2, 1, false}, {-3, 0, false}, {-3, 1, true}} {
		if term.Free(lam(v(0), app(v(0), v(1), v(3))), c.from, c.to) != c.want {
			t.Error("Free", i)
		}
	}
	for n, w := range map[int]int{-1: 0, 0: 2, 1: 0, 2: 1, 3: 0} {
		if got := term.Uses(x, n); got != w {
			t.Error("Uses", n, got)
		}
	}
}

func TestP2_3(t *testing.T) {
	a, b := con(7), con(8)
	want(t, "Put", term.Put(app(v(0), v(1)), a), app(a, v(0)))
	want(t, "Put", term.Put(app(v(0), v(1), v(2)), a, b), app(b, a, v(0)))
	want(t, "Put", term.Put(lam(v(0), app(v(0), v(1))), v(4)), lam(v(4), app(v(0), v(5))))
	want(t, "Put", term.Put(lam(v(0), app(v(0), v(1), v(2))), lam(a, v(1))), lam(lam(a, v(1)), app(v(0), lam(a, v(2)), v(1))))
	want(t, "Put", term.Put(v(-1), a), v(-1))
	want(t, "Put", term.Put(x5(), nil...), x5())
	wrong := api.Term{Kind: api.KVar, Num: 0, Kids: []api.Term{v(0)}}
	want(t, "Put", term.Put(wrong, a), a)
	want(t, "Put", term.Put(api.Term{Kind: 99, Num: 4, Kids: []api.Term{v(0)}}, a), api.Term{Kind: 99, Num: 4, Kids: []api.Term{a}})
}

func x5() api.Term { return lam(v(5), app(v(0), v(6), sort(1, 2))) }

func TestP2_4(t *testing.T) {
	by := []api.Level{lv(0, 3), lv(1, 1)}
	want(t, "Levels", term.Levels(app(sort(1, 1), con(0, lv(2, 0), lv(3, 5)), v(0)), by), app(sort(0, 4), con(0, lv(1, 1), lv(0, 5)), v(0)))
	want(t, "Levels", term.Levels(x5(), nil), lam(v(5), app(v(0), v(6), sort(0, 2))))
	for i, c := range []struct {
		a, b api.Term
		want bool
	}{
		{x5(), x5(), true},
		{sort(0, 0), sort(), true},
		{sort(0, 1, 1, 1), sort(1, 1), true},
		{sort(1, 1), sort(1, 0), false},
		{con(0, lv(0, 1), lv()), con(0, lv(0, 1)), false},
		{con(0), con(1), false},
		{ind(0, 1), ind(0, 2), false},
		{ind(0, 1), ctor(0, 1), false},
		{app(v(0), v(1)), app(v(0), v(2)), false},
		{pair(v(0), v(1)), fst(v(0)), false},
		{lam(v(0), v(1)), pi(v(0), v(1)), false},
	} {
		if term.Same(c.a, c.b) != c.want || term.Same(c.b, c.a) != c.want {
			t.Error(i)
		}
	}
}

func TestP2_5(t *testing.T) {
	r := chance(2)
	for range 3000 {
		x, a, b := anyTerm(r, 5, 6), anyTerm(r, 3, 6), anyTerm(r, 3, 6)
		by := []api.Level{lv(0, 1, 2, 3), lv(1, 1), lv(3, 0)}
		want(t, "Put of Lift", term.Put(term.Lift(x, 2, 0), a, b), term.Lift(x, 0, 0))
		want(t, "Put of Put", term.Put(term.Put(x, a), b), term.Put(x, b, term.Put(a, b)))
		want(t, "Put of two", term.Put(term.Put(x, term.Lift(a, 1, 0)), b), term.Put(x, b, a))
		want(t, "Lift of Put", term.Lift(term.Put(x, a), 3, 1), term.Put(term.Lift(x, 3, 2), term.Lift(a, 3, 1)))
		if !term.Same(term.Levels(term.Put(x, a), by), term.Put(term.Levels(x, by), term.Levels(a, by))) {
			t.Fatal("Levels of Put", x)
		}
		uses := 0
		for n := range 7 {
			if (term.Uses(x, n) > 0) != term.Free(x, n, n+1) {
				t.Fatal("Free", x, n)
			}
			uses = term.Uses(x, 0)
		}
		if term.Size(term.Put(x, a)) != term.Size(x)+uses*(term.Size(a)-1) || term.Size(term.Lift(x, 3, 1)) != term.Size(x) || term.Size(term.Levels(x, by)) != term.Size(x) {
			t.Fatal("Size", x)
		}
		if !term.Right(x) || !term.Same(x, x) || !term.Same(term.Levels(x, nil), term.Levels(x, []api.Level{level.Num(0)})) {
			t.Fatal("Right, Same", x)
		}
		if term.Free(x, 0, 3) == same(term.Lift(x, 1, 0), term.Lift(x, 1, 3)) {
			t.Fatal("Free and Lift", x)
		}
	}
}

// spoil writes over all that a term's lists hold.
func spoil(t api.Term) {
	for i := range t.Levels {
		for j := range t.Levels[i].Parts {
			t.Levels[i].Parts[j] = api.Part{Var: 99, Plus: 99}
		}
		t.Levels[i] = api.Level{}
	}
	for i := range t.Kids {
		spoil(t.Kids[i])
		t.Kids[i] = api.Term{Kind: 99}
	}
}

// apart fails, unless what is answered shares no memory with the arguments, nor one answer with another.
func apart(t *testing.T, what string, args []api.Term, answers ...api.Term) {
	t.Helper()
	var kept []api.Term
	for _, a := range args {
		kept = append(kept, term.Lift(a, 0, 0))
	}
	for i, a := range answers {
		var rest []api.Term
		for _, b := range answers[i+1:] {
			rest = append(rest, term.Lift(b, 0, 0))
		}
		spoil(a)
		for j, b := range answers[i+1:] {
			want(t, what+": one answer and another", b, rest[j])
		}
	}
	for i, a := range args {
		want(t, what+": an argument", a, kept[i])
	}
}

func TestTermMemory(t *testing.T) {
	a, x := app(sort(1, 1), con(3, lv(1, 2))), lam(sort(1, 1), app(v(1), v(1), con(2, lv(1, 3))))
	args := []api.Term{a, x}
	apart(t, "Lift", args, term.Lift(x, 1, 0))
	apart(t, "Put", args, term.Put(x, a))
	apart(t, "Levels", args, term.Levels(x, []api.Level{lv(1, 0)}))
	twice := term.Put(x, a)
	body := twice.Kids[1]
	apart(t, "Put twice", args, body.Kids[0].Kids[0], body.Kids[0].Kids[1])
}
