package elim

import (
	"spandrel/api"
	"spandrel/build"
	"spandrel/codes"
	"spandrel/good"
	"spandrel/tele"
	"spandrel/term"
)

// walk is the constant that goes through trees that are good.
func (w *work) walk() api.Core {
	row := w.row()
	q := len(row)
	t, i, g := bound(q), bound(q+1), bound(q+2)
	typ := pis(w.mot(i, pairs(t, g), q+3), w.tree(q), w.indexType(q+1), w.good(t, i, q+2))
	far := q + 1
	rec := build.Of(api.KTreeRec, w.shapeType(far), w.place(build.Var(0), far+1), w.over(far), w.step(far), build.Var(0))
	body := lams(rec, w.tree(q))
	return w.core(tele.Pis(w.Params, tele.Pis(row, typ)), tele.Lams(w.Params, tele.Lams(row, body)))
}

// step is what is done at a shape, its functions, and what is told of its kids.
func (w *work) step(far int) api.Term {
	x, f := bound(far), bound(far+1)
	binders := []api.Term{w.shapeType(far), w.functions(x, far+1), w.held(x, f, far+2)}
	far += 3
	n := len(w.Ctors)
	var branches []api.Term
	for c := range n {
		branches = append(branches, w.at(c, far))
	}
	shape := pairs(bound(far), bound(far+1))
	motive := lams(pis(w.fourPis(shape, far+2), w.plains(build.Var(0), far+1)), build.Fin(n))
	choice := codes.Case(motive, branches, firsts(x)(far))
	return lams(tele.Apps(choice, seconds(x)(far), build.Var(1), build.Var(0)), binders...)
}

// at is what is done at the constructor c. Without plain arguments it is asked of the one tuple there is: only then does the method fit.
func (w *work) at(c, far int) api.Term {
	r := rule{w, w.rules[c], c}
	a := bound(far)
	if r.plainCount() > 0 {
		return lams(r.inner(a, far+1), w.plains(r.elem(), far))
	}
	motive := lams(w.fourPis(r.shape(bound(far+1)), far+2), build.Fin(1))
	only := r.inner(fixed(build.Elem(0, 1)), far+1)
	return lams(codes.Case(motive, []api.Term{only}, a(far+1)), w.plains(r.elem(), far))
}

// rule is the rule of a constructor at work.
type rule struct {
	*work
	own api.Rule
	c   int
}

func (r rule) elem() api.Term { return build.Elem(r.c, len(r.Ctors)) }

// shape is its shape at a tuple of plain arguments.
func (r rule) shape(a spot) spot { return pairs(fixed(r.elem()), a) }

func (r rule) recs() []int { return codes.Recs(r.own) }

func (r rule) plainCount() int { return len(r.own.Args) - len(r.recs()) }

// scene is what the inner one of a rule knows: the tuple of plain arguments, the row of the recursive ones (if there are any).
type scene struct {
	rule
	a, y spot
}

// functions is A, table T, want W of the chapter.
func (s scene) functions(far int) api.Term { return s.work.functions(s.shape(s.a), far) }

func (s scene) table(far int) api.Term {
	return good.Table(s.Decl, s.own, s.base, s.c, s.a(far), s.y(far), far)
}

func (s scene) want(far int) api.Term { return good.Want(s.Decl, s.own, s.a(far), far) }

// inner is what is done at a constructor of plain arguments: by both proofs of that the tree is good it is a constructor's.
func (r rule) inner(a spot, far int) api.Term {
	types, _ := r.four(r.shape(a), far)
	f, h, i, g := bound(far), bound(far+1), bound(far+2), bound(far+3)
	far += 4
	s := scene{r, a, fixed(api.Term{})}
	p := firsts(g)
	args := []spot{h, i, seconds(g)}
	if len(r.recs()) > 0 {
		s.y = firsts(g)
		p = firsts(seconds(g))
		last := seconds(seconds(g))
		args = []spot{h, i, firsts(last), seconds(last)}
	}
	path := build.Of(api.KJ, s.functions(far), s.table(far), s.motive(far), s.basis(far), f(far), p(far))
	for _, x := range args {
		path = build.Of(api.KApp, path, x(far))
	}
	return tele.Lams(types, path)
}

// rest are the types of what is still to be given once the functions are known.
func (s scene) rest(f spot, far int) []api.Term {
	x := s.shape(s.a)
	equal := build.Of(api.KId, s.indexType(far+2), s.want(far+2), build.Var(0))
	types := []api.Term{s.held(x, f, far), s.indexType(far + 1), equal}
	if len(s.recs()) == 0 {
		return types
	}
	far += 3
	kid := func(far int) api.Term { return build.Of(api.KApp, f(far), build.Var(0)) }
	isGood := tele.Apps(codes.Const(s.Decl, s.base+4, far+1), kid(far+1))
	h := lams(isGood, s.place(x(far), far))
	return append(types, good.Kids(s.Decl, s.own, s.a(far), h, far))
}

// proof is that the tree is good: by a proof of its functions, one of its index, and the kids'.
func (s scene) proof(p, e, kids spot) spot {
	if len(s.recs()) == 0 {
		return pairs(p, e)
	}
	return pairs(s.y, pairs(p, pairs(e, kids)))
}

// motive is what is asked of functions that are the table.
func (s scene) motive(far int) api.Term {
	f, p := bound(far), bound(far+1)
	i, e, kids := bound(far+3), bound(far+4), bound(far+5)
	equal := build.Of(api.KId, s.functions(far+1), s.table(far+1), build.Var(0))
	rest := s.rest(f, far+2)
	end := s.mot(i, pairs(sups(s.shape(s.a), f), s.proof(p, e, kids)), far+2+len(rest))
	return lams(tele.Pis(rest, end), s.functions(far), equal)
}

// basis is what is done where the functions are the table.
func (s scene) basis(far int) api.Term {
	h, i, e, kids := bound(far), bound(far+1), bound(far+2), bound(far+3)
	rest := s.rest(s.table, far)
	far += len(rest)
	refl := fixed(build.Of(api.KRefl))
	i2, e2 := bound(far), bound(far+1)
	equal := build.Of(api.KId, s.indexType(far+1), s.want(far+1), build.Var(0))
	end := s.mot(i2, pairs(sups(s.shape(s.a), s.table), s.proof(refl, e2, kids)), far+2)
	motive := lams(end, s.indexType(far), equal)
	path := build.Of(api.KJ, s.indexType(far), s.want(far), motive, s.method(h, kids, far), i(far), e(far))
	return tele.Lams(rest, path)
}

// method is the constructor's method at its arguments, and at what is assumed of the recursive ones.
func (s scene) method(h, kids spot, far int) api.Term {
	recs := s.recs()
	values := codes.Parts(s.a(far), s.plainCount())
	trees, proofs := codes.Parts(s.y(far), len(recs)), codes.Parts(kids(far), len(recs))
	var args, held []api.Term
	plains := 0
	for i, arg := range s.own.Args {
		if !arg.Rec {
			args = append(args, values[plains])
			plains++
			continue
		}
		j := len(held)
		row := codes.Tele(s.own, i, values, far)
		n := len(row)
		at := func(x api.Term) api.Term { return tele.Apps(term.Lift(x, n, 0), tele.Vars(n, 0)...) }
		args = append(args, tele.Lams(row, build.Of(api.KPair, at(trees[j]), at(proofs[j]))))
		wants := good.Wants(s.Decl, s.own, j, s.a(far), far)
		told := tele.Apps(h(far+n), good.At(s.own, j), wants, at(proofs[j]))
		held = append(held, tele.Lams(row, told))
	}
	method := build.Var(far - 1 - len(s.Members) - s.c)
	return tele.Apps(tele.Apps(method, args...), held...)
}
