package session

import (
	"slices"

	"spandrel/api"
	"spandrel/term"
)

// copied is an environment in memory of its own.
func copied(e api.Env) api.Env {
	e.Decls, e.Core, e.At = slices.Clone(e.Decls), slices.Clone(e.Core), slices.Clone(e.At)
	for i, d := range e.Decls {
		e.Decls[i] = copiedDecl(d)
	}
	for i, c := range e.Core {
		all := copiedTerms(c.Type, c.Body)
		e.Core[i].Type, e.Core[i].Body = all[0], all[1]
	}
	return e
}

// copiedTerms are terms in memory of their own.
func copiedTerms(l ...api.Term) []api.Term {
	var out []api.Term
	for _, t := range l {
		out = append(out, term.Lift(t, 0, 0))
	}
	return out
}

// copiedDecl is a declaration in memory of its own.
func copiedDecl(d api.Decl) api.Decl {
	all := copiedTerms(d.Type, d.Body)
	d.Type, d.Body = all[0], all[1]
	d.Params = copiedTerms(d.Params...)
	d.Sort.Parts = slices.Clone(d.Sort.Parts)
	d.Members, d.Ctors = slices.Clone(d.Members), slices.Clone(d.Ctors)
	for i, m := range d.Members {
		d.Members[i].Index = copiedTerms(m.Index...)
	}
	for i, c := range d.Ctors {
		d.Ctors[i].Type = copiedTerms(c.Type)[0]
	}
	return d
}
