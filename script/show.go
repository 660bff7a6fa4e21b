package script

import (
	"slices"
	"strconv"

	"spandrel/api"
	"spandrel/level"
	"spandrel/lines"
	"spandrel/tele"
	"spandrel/term"
	"spandrel/throw"
)

func word(w string) lines.Expr { return lines.Expr{Word: w} }

func listOf(kids ...lines.Expr) lines.Expr { return lines.Expr{Kids: kids} }

// variable is the word for the variable of a binder, so many being ahead of it.
func variable(ahead int) lines.Expr { return word("?" + strconv.Itoa(ahead)) }

// layer lays terms as trees, with the words that it knows.
type layer struct{ words }

// level lays a level.
func (w layer) level(l api.Level) lines.Expr {
	var parts []lines.Expr
	for _, p := range level.Norm(l).Parts {
		parts = append(parts, w.part(p))
	}
	switch len(parts) {
	case 0:
		return word("0")
	case 1:
		return parts[0]
	}
	return listOf(append([]lines.Expr{word("max")}, parts...)...)
}

// part lays a part of a level.
func (w layer) part(p api.Part) lines.Expr {
	plus := word(strconv.Itoa(p.Plus))
	if p.Var == 0 {
		return plus
	}
	throw.Must(api.ErrNone, p.Var <= len(w.levels))
	v := word(w.levels[p.Var-1])
	if p.Plus == 0 {
		return v
	}
	return listOf(word("+"), v, plus)
}

// named lays a name of a kind, at a term's levels, behind a word.
func (w layer) named(first string, k api.TermKind, t api.Term) lines.Expr {
	i := slices.IndexFunc(w.names, func(n Name) bool { return n.Kind == k && n.Num == t.Num && n.At == t.At })
	throw.Must(api.ErrNone, i >= 0)
	kids := []lines.Expr{word(first), word(w.names[i].Word)}
	for _, l := range t.Levels {
		kids = append(kids, w.level(l))
	}
	return listOf(kids...)
}

// term lays a term below so many binders.
func (w layer) term(t api.Term, below int) lines.Expr {
	switch t.Kind {
	case api.KVar:
		throw.Must(api.ErrNone, t.Num >= 0, t.Num < below)
		return variable(below - 1 - t.Num)
	case api.KSort:
		throw.Must(api.ErrShape, len(t.Levels) == 1)
		return listOf(word("type"), w.level(t.Levels[0]))
	case api.KConst, api.KInd, api.KCtor:
		x := w.named("at", t.Kind, t)
		if len(t.Levels) == 0 {
			return x.Kids[1]
		}
		return x
	case api.KRec:
		return w.named("rec", api.KInd, t)
	case api.KPi:
		return w.bound("pi", t, 2, below)
	case api.KLam:
		return w.bound("lam", t, 2, below)
	case api.KLet:
		return w.bound("let", t, 3, below)
	case api.KApp:
		return w.spine(t, below)
	}
	panic(api.ErrShape)
}

// bound lays a term whose last kid stands below its binder.
func (w layer) bound(first string, t api.Term, kids, below int) lines.Expr {
	throw.Must(api.ErrShape, len(t.Kids) == kids)
	binder := []lines.Expr{variable(below)}
	for _, kid := range t.Kids[:kids-1] {
		binder = append(binder, w.term(kid, below))
	}
	return listOf(word(first), listOf(binder...), w.term(t.Kids[kids-1], below+1))
}

// spine lays a term at arguments.
func (w layer) spine(t api.Term, below int) lines.Expr {
	head, args := tele.Spine(t)
	throw.Must(api.ErrShape, len(args) > 0)
	kids := []lines.Expr{w.term(head, below)}
	for _, a := range args {
		kids = append(kids, w.term(a, below))
	}
	return listOf(kids...)
}

// Show is a tree that tells a term.
func Show(names []Name, levels []string, t api.Term) (lines.Expr, bool) {
	x, e := throw.Told(api.ErrShape, func() lines.Expr { return layer{words{names: names, levels: levels}}.term(t, 0) })
	if e != api.OK {
		return lines.Expr{}, false
	}
	back, e := Term(names, levels, nil, nil, x)
	if e != api.OK || !term.Same(back, t) {
		return lines.Expr{}, false
	}
	return x, true
}
