package good

import (
	"spandrel/api"
	"spandrel/build"
	"spandrel/codes"
	"spandrel/tele"
	"spandrel/throw"
)

// lams is a function of binders, each below those ahead.
func lams(b api.Term, binders ...api.Term) api.Term { return tele.Lams(binders, b) }

// pis is a function type likewise.
func pis(b api.Term, binders ...api.Term) api.Term { return tele.Pis(binders, b) }

// block is a block at work, whatever the rule.
type block struct {
	*work
	rules []api.Rule
}

// rule is a rule of the block at work.
func (b block) rule(c int) *work { return &work{b.rules[c], b.block, b.base} }

// plains is the tuple type of a constructor's plain arguments.
func (b block) plains(c api.Term, far int) api.Term {
	return tele.Apps(codes.Const(b.block, b.base+1, far), c)
}

// goodness is what is told of a tree: of an index a type.
func (b block) goodness(far int) api.Term { return build.Of(api.KPi, b.indexType(far), b.universe()) }

// functionsOf is the type of the functions of a shape.
func (b block) functionsOf(x api.Term, far int) api.Term {
	return build.Of(api.KPi, b.place(x, far), b.tree(far+1))
}

// held is the type of what is held of a shape's kids.
func (b block) held(x api.Term, far int) api.Term {
	return build.Of(api.KPi, b.place(x, far), b.goodness(far+1))
}

// motive is the motive of the case of constructors.
func (b block) motive(far int) api.Term {
	shape := func(back int) api.Term { return build.Of(api.KPair, build.Var(back+1), build.Var(back)) }
	typ := pis(b.universe(), b.plains(build.Var(0), far+1), b.functionsOf(shape(0), far+2), b.held(shape(1), far+3), b.indexType(far+4))
	return lams(typ, build.Fin(len(b.rules)))
}

// branch is what it is that a tree of the constructor c is good.
func (b block) branch(c, far int) api.Term {
	w := b.rule(c)
	a := func(back int) api.Term { return build.Var(back) }
	binders := []api.Term{
		b.plains(build.Elem(c, len(b.rules)), far),
		w.functions(c, a(0), far+1),
		b.held(w.shape(c, a(1)), far+2),
		b.indexType(far + 3),
	}
	return lams(w.body(c, far+4), binders...)
}

// body says it of the plain arguments, functions, what is held and the index that the variables 3 to 0 are.
func (w *work) body(c, far int) api.Term {
	is := func(back int, y api.Term) api.Term {
		a, f := build.Var(3+back), build.Var(2+back)
		return build.Of(api.KId, w.functions(c, a, far+back), w.table(c, a, y, far+back), f)
	}
	ends := func(back int) api.Term {
		return build.Of(api.KId, w.indexType(far+back), w.want(build.Var(3+back), far+back), build.Var(back))
	}
	if len(w.recs()) == 0 {
		return build.Of(api.KSigma, is(0, api.Term{}), ends(1))
	}
	kids := w.kids(build.Var(6), build.Var(4), far+3)
	return build.Of(api.KSigma, w.row(build.Var(3), far), build.Of(api.KSigma, is(1, build.Var(0)), build.Of(api.KSigma, ends(2), kids)))
}

// step is what it is of a shape, its functions, and what is held of its kids.
func (b block) step(far int) api.Term {
	var branches []api.Term
	for c := range b.rules {
		branches = append(branches, b.branch(c, far+3))
	}
	x, f, h := build.Var(2), build.Var(1), build.Var(0)
	choice := codes.Case(b.motive(far+3), branches, build.Of(api.KFst, x))
	body := tele.Apps(choice, build.Of(api.KSnd, x), f, h)
	return lams(body, codes.Shape(b.block, b.base, far), b.functionsOf(build.Var(0), far+1), b.held(build.Var(1), far+2))
}

// constant is the constant by which trees are good.
func (b block) constant() api.Core {
	rec := build.Of(api.KTreeRec, codes.Shape(b.block, b.base, 1), b.place(build.Var(0), 2), lams(b.goodness(2), b.tree(1)), b.step(1), build.Var(0))
	return api.Core{
		Levels: b.block.Levels,
		Type:   tele.Pis(b.block.Params, pis(b.universe(), b.tree(0), b.indexType(1))),
		Has:    true,
		Body:   tele.Lams(b.block.Params, lams(rec, b.tree(0))),
	}
}

// Good is the constant by which trees are good.
func Good(d api.Decl, rules []api.Rule, base int) []api.Core {
	return throw.Some(func() []api.Core {
		throw.Must(api.ErrNone, d.Kind == api.DeclBlock, len(rules) == len(d.Ctors))
		b := block{&work{block: d, base: base}, rules}
		return []api.Core{b.constant()}
	})
}
