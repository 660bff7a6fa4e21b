// Package build lays terms. What it lays shares the memory of what it is given.
package build

import "spandrel/api"

// Of is a term of a kind and its kids.
func Of(k api.TermKind, kids ...api.Term) api.Term { return api.Term{Kind: k, Kids: kids} }

// At is a function at arguments.
func At(f api.Term, args ...api.Term) api.Term {
	for _, a := range args {
		f = Of(api.KApp, f, a)
	}
	return f
}

// Var is a variable.
func Var(n int) api.Term { return api.Term{Kind: api.KVar, Num: n} }

// Fin is the type of so many elements.
func Fin(n int) api.Term { return api.Term{Kind: api.KFin, Num: n} }

// Elem is an element of a type of so many.
func Elem(n, of int) api.Term { return api.Term{Kind: api.KElem, Num: n, At: of} }

// Kid is a term's kid; where there is none, a term without anything.
func Kid(t api.Term, i int) api.Term {
	if i < 0 || i >= len(t.Kids) {
		return api.Term{}
	}
	return t.Kids[i]
}

// Two says whether a term is of a kind and has two kids.
func Two(t api.Term, k api.TermKind) bool { return t.Kind == k && len(t.Kids) == 2 }

// Empty says whether a term has nothing.
func Empty(t api.Term) bool {
	return t.Kind == 0 && t.Num == 0 && t.At == 0 && len(t.Levels) == 0 && len(t.Kids) == 0
}

// NoBlock says whether a declaration has nothing of what a block alone has.
func NoBlock(d api.Decl) bool {
	return len(d.Params) == 0 && len(d.Sort.Parts) == 0 && len(d.Members) == 0 && len(d.Ctors) == 0
}
