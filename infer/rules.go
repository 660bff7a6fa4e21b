package infer

import (
	"spandrel/api"
	"spandrel/build"
	"spandrel/core"
	"spandrel/level"
	"spandrel/term"
	"spandrel/throw"
)

// infers is how the type of a term of each kind is inferred; there is none of bare ones.
func infers() map[api.TermKind]func(w *asker, ctx []api.Term, t api.Term) api.Term {
	return map[api.TermKind]func(w *asker, ctx []api.Term, t api.Term) api.Term{
		api.KVar:     (*asker).variable,
		api.KSort:    (*asker).universe,
		api.KConst:   (*asker).constant,
		api.KPi:      (*asker).binder,
		api.KSigma:   (*asker).binder,
		api.KTree:    (*asker).binder,
		api.KLam:     (*asker).lam,
		api.KApp:     (*asker).app,
		api.KLet:     (*asker).let,
		api.KFst:     (*asker).first,
		api.KSnd:     (*asker).second,
		api.KTreeRec: (*asker).treeRec,
		api.KId:      (*asker).id,
		api.KJ:       (*asker).path,
		api.KFin:     (*asker).finite,
		api.KElem:    (*asker).element,
		api.KCase:    (*asker).choice,
	}
}

func (w *asker) variable(ctx []api.Term, t api.Term) api.Term {
	return term.Lift(ctx[len(ctx)-1-t.Num], t.Num+1, 0)
}

func (w *asker) universe(_ []api.Term, t api.Term) api.Term {
	up := level.Succ(t.Levels[0])
	throw.Must(api.ErrLevel, level.Right(up, w.levels))
	return universe(up)
}

func (w *asker) constant(_ []api.Term, t api.Term) api.Term {
	typ, _ := core.Type(w.consts, t.Num, t.Levels...)
	return typ
}

func (w *asker) binder(ctx []api.Term, t api.Term) api.Term {
	i := w.sort(ctx, t.Kids[0])
	j := w.sort(below(ctx, t.Kids[0]), t.Kids[1])
	return universe(level.Max(i, j))
}

func (w *asker) lam(ctx []api.Term, t api.Term) api.Term {
	w.sort(ctx, t.Kids[0])
	return build.Of(api.KPi, t.Kids[0], w.infer(below(ctx, t.Kids[0]), t.Kids[1]))
}

func (w *asker) app(ctx []api.Term, t api.Term) api.Term {
	f := w.as(api.KPi, w.infer(ctx, t.Kids[0]), api.ErrFunc)
	w.check(ctx, t.Kids[1], build.Kid(f, 0))
	return w.Put(build.Kid(f, 1), t.Kids[1])
}

func (w *asker) let(ctx []api.Term, t api.Term) api.Term { return w.infer(ctx, w.opened(ctx, t)) }

// opened is what a KLet is, with its term put, once that is checked.
func (w *asker) opened(ctx []api.Term, t api.Term) api.Term {
	w.sort(ctx, t.Kids[0])
	w.check(ctx, t.Kids[1], t.Kids[0])
	return w.Put(t.Kids[2], t.Kids[1])
}

func (w *asker) first(ctx []api.Term, t api.Term) api.Term {
	return build.Kid(w.as(api.KSigma, w.infer(ctx, t.Kids[0]), api.ErrPair), 0)
}

func (w *asker) second(ctx []api.Term, t api.Term) api.Term {
	p := w.as(api.KSigma, w.infer(ctx, t.Kids[0]), api.ErrPair)
	return w.Put(build.Kid(p, 1), build.Of(api.KFst, t.Kids[0]))
}

// motive asks a motive over a type.
func (w *asker) motive(ctx []api.Term, p, over api.Term) {
	f := w.as(api.KPi, w.infer(ctx, p), api.ErrFunc)
	w.one(build.Kid(f, 0), over, api.ErrType)
	w.as(api.KSort, build.Kid(f, 1), api.ErrSort)
}

func (w *asker) treeRec(ctx []api.Term, t api.Term) api.Term {
	a, b, p, s, x := t.Kids[0], t.Kids[1], t.Kids[2], t.Kids[3], t.Kids[4]
	w.sort(ctx, a)
	w.sort(below(ctx, a), b)
	tree := build.Of(api.KTree, a, b)
	w.check(ctx, x, tree)
	w.motive(ctx, p, tree)
	w.check(ctx, s, step(tree, p))
	return build.At(p, x)
}

// step is the type of what a KTreeRec does at a KSup.
func step(tree, p api.Term) api.Term {
	a, b := tree.Kids[0], tree.Kids[1]
	far := term.Lift(p, 3, 0)
	kids := build.Of(api.KPi, b, term.Lift(tree, 2, 0))
	held := build.Of(api.KPi, term.Lift(b, 1, 0), build.At(far, build.At(build.Var(1), build.Var(0))))
	return build.Of(api.KPi, a, build.Of(api.KPi, kids, build.Of(api.KPi, held, build.At(far, build.Of(api.KSup, build.Var(2), build.Var(1))))))
}

func (w *asker) id(ctx []api.Term, t api.Term) api.Term {
	i := w.sort(ctx, t.Kids[0])
	w.check(ctx, t.Kids[1], t.Kids[0])
	w.check(ctx, t.Kids[2], t.Kids[0])
	return universe(i)
}

func (w *asker) path(ctx []api.Term, t api.Term) api.Term {
	typ, a, p, d, b, x := t.Kids[0], t.Kids[1], t.Kids[2], t.Kids[3], t.Kids[4], t.Kids[5]
	w.sort(ctx, typ)
	w.check(ctx, a, typ)
	w.check(ctx, b, typ)
	w.check(ctx, x, build.Of(api.KId, typ, a, b))
	f := w.as(api.KPi, w.infer(ctx, p), api.ErrFunc)
	w.one(build.Kid(f, 0), typ, api.ErrType)
	g := w.as(api.KPi, build.Kid(f, 1), api.ErrFunc)
	w.one(build.Kid(g, 0), build.Of(api.KId, term.Lift(typ, 1, 0), term.Lift(a, 1, 0), build.Var(0)), api.ErrType)
	w.as(api.KSort, build.Kid(g, 1), api.ErrSort)
	w.check(ctx, d, build.At(p, a, build.Of(api.KRefl)))
	return build.At(p, b, x)
}

func (w *asker) finite(_ []api.Term, _ api.Term) api.Term { return universe(api.Level{}) }

func (w *asker) element(_ []api.Term, t api.Term) api.Term {
	return build.Fin(t.At)
}

func (w *asker) choice(ctx []api.Term, t api.Term) api.Term {
	n := t.At
	fin := build.Fin(n)
	p, x := t.Kids[0], t.Kids[n+1]
	w.check(ctx, x, fin)
	w.motive(ctx, p, fin)
	for k, branch := range t.Kids[1 : n+1] {
		w.check(ctx, branch, build.At(p, build.Elem(k, n)))
	}
	return build.At(p, x)
}

// checks is how terms of some kinds are held against a type; others are inferred.
func checks() map[api.TermKind]func(w *asker, ctx []api.Term, t, typ api.Term) {
	return map[api.TermKind]func(w *asker, ctx []api.Term, t, typ api.Term){
		api.KLam:  (*asker).checkLam,
		api.KPair: (*asker).checkPair,
		api.KSup:  (*asker).checkSup,
		api.KRefl: (*asker).checkRefl,
		api.KLet:  (*asker).checkLet,
	}
}

func (w *asker) checkLam(ctx []api.Term, t, typ api.Term) {
	f := w.as(api.KPi, typ, api.ErrFunc)
	w.sort(ctx, t.Kids[0])
	w.one(t.Kids[0], build.Kid(f, 0), api.ErrType)
	w.check(below(ctx, t.Kids[0]), t.Kids[1], build.Kid(f, 1))
}

func (w *asker) checkPair(ctx []api.Term, t, typ api.Term) {
	p := w.as(api.KSigma, typ, api.ErrPair)
	w.check(ctx, t.Kids[0], build.Kid(p, 0))
	w.check(ctx, t.Kids[1], w.Put(build.Kid(p, 1), t.Kids[0]))
}

func (w *asker) checkSup(ctx []api.Term, t, typ api.Term) {
	tree := w.as(api.KTree, typ, api.ErrTree)
	w.check(ctx, t.Kids[0], build.Kid(tree, 0))
	places := w.Put(build.Kid(tree, 1), t.Kids[0])
	again := build.Of(api.KTree, build.Kid(tree, 0), build.Kid(tree, 1))
	w.check(ctx, t.Kids[1], build.Of(api.KPi, places, term.Lift(again, 1, 0)))
}

func (w *asker) checkRefl(_ []api.Term, _, typ api.Term) {
	id := w.as(api.KId, typ, api.ErrPath)
	w.one(build.Kid(id, 1), build.Kid(id, 2), api.ErrPath)
}

func (w *asker) checkLet(ctx []api.Term, t, typ api.Term) { w.check(ctx, w.opened(ctx, t), typ) }
