package senv

import (
	"slices"

	"spandrel/api"
)

// copied is a declaration in memory of its own.
func copied(d api.Decl) api.Decl {
	d.Type, d.Body = copiedTerm(d.Type), copiedTerm(d.Body)
	d.Params = copiedRow(d.Params)
	d.Sort = copiedLevel(d.Sort)
	d.Members, d.Ctors = slices.Clone(d.Members), slices.Clone(d.Ctors)
	for i, m := range d.Members {
		d.Members[i].Index = copiedRow(m.Index)
	}
	for i, c := range d.Ctors {
		d.Ctors[i].Type = copiedTerm(c.Type)
	}
	return d
}

func copiedLevel(l api.Level) api.Level { return api.Level{Parts: slices.Clone(l.Parts)} }

func copiedRow(l []api.Term) []api.Term {
	l = slices.Clone(l)
	for i, t := range l {
		l[i] = copiedTerm(t)
	}
	return l
}

func copiedTerm(t api.Term) api.Term {
	t.Levels = slices.Clone(t.Levels)
	for i, l := range t.Levels {
		t.Levels[i] = copiedLevel(l)
	}
	t.Kids = copiedRow(t.Kids)
	return t
}
