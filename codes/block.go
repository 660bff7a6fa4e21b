package codes

import (
	"spandrel/api"
	"spandrel/build"
	"spandrel/tele"
	"spandrel/term"
	"spandrel/throw"
)

// work is a block at work: its declaration, carried over, its rules, its base.
type work struct {
	api.Decl
	rules []api.Rule
	base  int
}

// universe is the one that the block is in.
func (w *work) universe() api.Term { return tele.Sort(w.Sort) }

// lam is a function of binders.
func lam(b api.Term, binders ...api.Term) api.Term { return tele.Lams(binders, b) }

// code is a constant: its type and its body, below the params and binders.
func (w *work) code(typ, body api.Term, binders ...api.Term) api.Core {
	return api.Core{
		Levels: w.Levels,
		Type:   tele.Pis(w.Params, tele.Pis(binders, typ)),
		Has:    true,
		Body:   tele.Lams(w.Params, tele.Lams(binders, body)),
	}
}

// types is a case of n types, of the variable 0.
func (w *work) types(n int, branch func(i int) api.Term) api.Term {
	var branches []api.Term
	for i := range n {
		branches = append(branches, branch(i))
	}
	return Case(lam(w.universe(), build.Fin(n)), branches, build.Var(0))
}

// choice is a constant that tells of each of n a tuple type of a row.
func (w *work) choice(n int, row func(i int) []api.Term) api.Core {
	body := w.types(n, func(i int) api.Term { return Tup(tele.Lifts(row(i), 1, 0)) })
	return w.code(w.universe(), body, build.Fin(n))
}

// plains is the tuple type of a constructor's plain arguments.
func (w *work) plains(c api.Term, far int) api.Term {
	return tele.Apps(Const(w.Decl, w.base+1, far), c)
}

// places are the places of a rule, of a tuple x of plain arguments.
func (w *work) places(r api.Rule, x api.Term, far int) api.Term {
	recs := Recs(r)
	if len(recs) == 0 {
		return build.Fin(0)
	}
	values := Parts(term.Lift(x, 1, 0), plain(r, len(r.Args)))
	rows := w.types(len(recs), func(j int) api.Term { return Tup(Tele(r, recs[j], values, far+1)) })
	return build.Of(api.KSigma, build.Fin(len(recs)), rows)
}

// place is the constant that tells the places of a shape.
func (w *work) place() api.Core {
	n := len(w.Ctors)
	motive := lam(build.Of(api.KPi, w.plains(build.Var(0), 2), w.universe()), build.Fin(n))
	var branches []api.Term
	for c, r := range w.rules {
		branches = append(branches, lam(w.places(r, build.Var(0), 2), w.plains(build.Elem(c, n), 1)))
	}
	x := build.Var(0)
	body := build.Of(api.KApp, Case(motive, branches, build.Of(api.KFst, x)), build.Of(api.KSnd, x))
	return w.code(w.universe(), body, Shape(w.Decl, w.base, 0))
}

// tree is the constant of all trees.
func (w *work) tree() api.Core {
	body := build.Of(api.KTree, Shape(w.Decl, w.base, 0), tele.Apps(Const(w.Decl, w.base+2, 1), build.Var(0)))
	return w.code(w.universe(), body)
}

// Codes are a block's codes.
func Codes(d api.Decl, rules []api.Rule, base int) []api.Core {
	return throw.Some(func() []api.Core {
		throw.Must(api.ErrNone, d.Kind == api.DeclBlock, len(rules) == len(d.Ctors))
		w := &work{d, rules, base}
		own := w.choice(len(d.Members), func(m int) []api.Term { return d.Members[m].Index })
		args := w.choice(len(rules), func(c int) []api.Term { return Types(rules[c]) })
		return []api.Core{own, args, w.place(), w.tree()}
	})
}
