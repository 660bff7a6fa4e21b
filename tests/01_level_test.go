package tests

import (
	"math/rand"
	"testing"

	"spandrel/api"
	"spandrel/level"
)

// anyLevel is a level of some parts in any order, wrong ones now and then.
func anyLevel(r *rand.Rand, vars, plus int, wrong bool) (l api.Level) {
	for range r.Intn(5) {
		l.Parts = append(l.Parts, api.Part{Var: r.Intn(vars + 1), Plus: r.Intn(plus + 1)})
	}
	if wrong && r.Intn(6) == 0 {
		bad := []api.Part{{Var: -1, Plus: 0}, {Var: 1, Plus: -1}, {Var: api.MaxNum + 1, Plus: 0}, {Var: 0, Plus: api.MaxNum + 1}}
		l.Parts = append(l.Parts, bad[r.Intn(len(bad))])
	}
	return l
}

// valueOf is what a level's words say of its value: the greatest of its parts.
func valueOf(l api.Level, numbers []int) int {
	v := 0
	for _, p := range l.Parts {
		n := 0
		if p.Var > 0 && p.Var <= len(numbers) {
			n = numbers[p.Var-1]
		}
		v = max(v, n+p.Plus)
	}
	return v
}

func TestP1_1_Right(t *testing.T) {
	nine := lv(0, 1, 1, 1, 2, 1, 3, 1, 4, 1, 5, 1, 6, 1, 7, 1, 8, 1)
	ten := lv(0, 1, 1, 1, 2, 1, 3, 1, 4, 1, 5, 1, 6, 1, 7, 1, 8, 1, 9, 1)
	for i, c := range []struct {
		l    api.Level
		n    int
		want bool
	}{
		{lv(), 0, true},
		{lv(0, 0), 0, true},
		{lv(0, 0), -1, false},
		{lv(0, 1000), 0, true},
		{lv(0, 1001), 0, false},
		{lv(0, -1), 0, false},
		{lv(-1, 0), 3, false},
		{lv(1, 0), 0, false},
		{lv(1, 0), 1, true},
		{lv(2, 0, 1, 0), 2, false},
		{lv(1, 0, 1, 1), 2, false},
		{lv(0, 1, 3, 1000), 3, true},
		{nine, 8, true},
		{ten, 9, false},
	} {
		if level.Right(c.l, c.n) != c.want {
			t.Error(i, c.l, c.n)
		}
	}
}

func TestP1_1_Norm(t *testing.T) {
	m := api.MaxNum
	for _, c := range []struct{ l, want api.Level }{
		{lv(), lv()},
		{lv(0, 0), lv()},
		{lv(0, 0, 0, 0), lv()},
		{lv(0, 2), lv(0, 2)},
		{lv(2, 1, 1, 0, 2, 3), lv(1, 0, 2, 3)},
		{lv(0, 3, 1, 3), lv(1, 3)},
		{lv(1, 3, 0, 4), lv(0, 4, 1, 3)},
		{lv(1, 0, 0, 0), lv(1, 0)},
		{lv(0, 2, 1, 1, 2, 2), lv(1, 1, 2, 2)},
		{lv(1, 1, 2, -1), lv()},
		{lv(-1, 1, 2, 1), lv()},
		{lv(m, m), lv(m, m)},
		{lv(m+1, 0, 1, 1), lv()},
		{lv(1, m+1), lv()},
	} {
		want(t, "Norm", level.Norm(c.l), c.want)
	}
	want(t, "Num", level.Num(4), lv(0, 4))
	want(t, "Num", level.Num(0), lv())
	want(t, "Num", level.Num(-1), lv())
	want(t, "Var", level.Var(3), lv(3, 0))
	want(t, "Var", level.Var(0), lv())
	want(t, "Var", level.Var(-2), lv())
}

func TestP1_2(t *testing.T) {
	want(t, "Succ", level.Succ(lv()), lv(0, 1))
	want(t, "Succ", level.Succ(lv(0, 0)), lv(0, 1))
	want(t, "Succ", level.Succ(lv(1, -1)), lv(0, 1))
	want(t, "Succ", level.Succ(lv(0, 3, 1, 0)), lv(0, 4, 1, 1))
	want(t, "Succ", level.Succ(lv(0, 3, 1, 3)), lv(1, 4))
	want(t, "Max", level.Max(), lv())
	want(t, "Max", level.Max(lv(1, 0), lv(0, 3)), lv(0, 3, 1, 0))
	want(t, "Max", level.Max(lv(1, 2), lv(0, 1), lv(1, 1, 2, 0)), lv(1, 2, 2, 0))
	u := lv(0, 2, 1, 1, 2, 0)
	want(t, "Put", level.Put(u, nil), lv(0, 2))
	want(t, "Put", level.Put(u, []api.Level{lv(3, 4), lv()}), lv(3, 5))
	want(t, "Put", level.Put(u, []api.Level{lv(0, 7)}), lv(0, 8))
	want(t, "Put", level.Put(u, []api.Level{lv(1, 0, 1, 5), lv(0, 9)}), lv(0, 9, 1, 6))
	want(t, "Put", level.Put(lv(1, 3), []api.Level{lv(1, -1)}), lv(0, 3))
	want(t, "Put", level.Put(lv(1, -1), []api.Level{lv(0, 5)}), lv())
	want(t, "Succ of Max", level.Succ(level.Max(lv(1, 0), lv(0, 3))), lv(0, 4, 1, 1))
}

func TestP1_3(t *testing.T) {
	for i, c := range []struct {
		a, b api.Level
		want bool
	}{
		{lv(), lv(), true},
		{lv(), lv(1, 0), true},
		{lv(0, 0), lv(), true},
		{lv(1, 0), lv(1, 1), true},
		{lv(1, 1), lv(1, 0), false},
		{lv(0, 3), lv(1, 3), true},
		{lv(0, 4), lv(1, 3), false},
		{lv(1, 0), lv(0, 9), false},
		{lv(1, 1), lv(1, 2, 0, 5), true},
		{lv(0, 5), lv(1, 0), false},
		{lv(1, 0, 2, 0), lv(1, 5, 2, 0), true},
		{lv(1, 0), lv(2, 0), false},
	} {
		if level.Leq(c.a, c.b) != c.want {
			t.Error(i, c.a, c.b)
		}
	}
	if !level.Same(lv(0, 1, 1, 1), lv(1, 1)) || level.Same(lv(1, 1), lv(2, 1)) || level.Same(lv(1, 1), lv(1, 2)) {
		t.Error("Same")
	}
	u := lv(0, 2, 1, 1, 2, 0)
	want(t, "Value", level.Value(u, []int{5, 9}), 9)
	want(t, "Value", level.Value(u, []int{9}), 10)
	want(t, "Value", level.Value(u, []int{-3, api.MaxNum + 1}), 2)
	want(t, "Value", level.Value(u, []int{0, api.MaxNum}), api.MaxNum)
	want(t, "Value", level.Value(lv(1, 1, 2, -1), []int{5, 9}), 0)
	want(t, "Value", level.Value(lv(), nil), 0)
}

// TestP1_4 holds what the calls tell against the values, with many numbers.
func TestP1_4(t *testing.T) {
	r := chance(1)
	for range 20000 {
		a, b, c := anyLevel(r, 3, 4, true), anyLevel(r, 3, 4, true), anyLevel(r, 3, 4, true)
		na, nb := level.Norm(a), level.Norm(b)
		leq := level.Leq(a, b)
		broken := false
		for range 30 {
			numbers := []int{r.Intn(6), r.Intn(6), r.Intn(6)}
			if r.Intn(3) == 0 {
				numbers[r.Intn(3)] = 50
			}
			broken = broken || valueOf(na, numbers) > valueOf(nb, numbers)
			if level.Value(a, numbers) != valueOf(na, numbers) {
				t.Fatal("Value", a, numbers)
			}
			by := []api.Level{b, c}
			got := level.Value(level.Put(a, by), numbers)
			if w := valueOf(na, []int{level.Value(b, numbers), level.Value(c, numbers)}); got != w {
				t.Fatal("Put", a, by, numbers, got, w)
			}
		}
		if leq && broken || !leq && !separated(na, nb) {
			t.Fatal("Leq", a, b, leq)
		}
		if level.Same(a, b) != same(na, nb) {
			t.Fatal("Same", a, b)
		}
		if leq && level.Leq(b, c) && !level.Leq(a, c) {
			t.Fatal("order", a, b, c)
		}
		if m := level.Max(na, nb); !level.Leq(a, m) || !level.Leq(b, m) {
			t.Fatal("Max", a, b)
		}
		want(t, "Norm of Norm", level.Norm(na), na)
	}
}

// separated says whether there are numbers with which the one is above the other.
func separated(a, b api.Level) bool {
	for _, big := range [][]int{{0, 0, 0}, {100, 0, 0}, {0, 100, 0}, {0, 0, 100}} {
		if valueOf(a, big) > valueOf(b, big) {
			return true
		}
	}
	return false
}

// TestLevelMemory holds that no argument is changed, and that no answer shares memory with one.
func TestLevelMemory(t *testing.T) {
	a, by := lv(1, 0, 2, 3), []api.Level{lv(1, 1), lv(3, 2)}
	for _, l := range []api.Level{level.Norm(a), level.Succ(a), level.Max(a), level.Put(lv(1, 0), by)} {
		for i := range l.Parts {
			l.Parts[i] = api.Part{Var: 77, Plus: 77}
		}
	}
	want(t, "argument", a, lv(1, 0, 2, 3))
	want(t, "argument", by, []api.Level{lv(1, 1), lv(3, 2)})
}
