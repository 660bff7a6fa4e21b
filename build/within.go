package build

import (
	"iter"

	"spandrel/api"
	"spandrel/term"
)

// Within are a term and all terms within it.
func Within(t api.Term) iter.Seq[api.Term] {
	return func(yield func(api.Term) bool) { visit(t, yield) }
}

// visit goes through them, until yield tells no.
func visit(t api.Term, yield func(api.Term) bool) bool {
	if !yield(t) {
		return false
	}
	for _, kid := range t.Kids {
		if !visit(kid, yield) {
			return false
		}
	}
	return true
}

// Filled is a term below so many binders, in memory of its own, each KSelf of which becomes what is told of it where it stands.
func Filled(t api.Term, below int, tell func(self api.Term, below int) api.Term) api.Term {
	if t.Kind == api.KSelf {
		return tell(t, below)
	}
	kids := t.Kids
	t.Kids = nil
	out := term.Lift(t, 0, 0)
	for i, kid := range kids {
		in := below
		if term.Binds(t.Kind, i) {
			in++
		}
		out.Kids = append(out.Kids, Filled(kid, in, tell))
	}
	return out
}
