// Package fresh copies things, so that what is handed out shares no memory with what was handed in.
package fresh

import (
	"slices"

	"spandrel/api"
)

// Level is a level in memory of its own.
func Level(l api.Level) api.Level { return api.Level{Parts: slices.Clone(l.Parts)} }

// Term is a term in memory of its own.
func Term(t api.Term) api.Term {
	t.Levels = slices.Clone(t.Levels)
	for i, l := range t.Levels {
		t.Levels[i] = Level(l)
	}
	t.Kids = Terms(t.Kids)
	return t
}

// Terms are terms in memory of their own.
func Terms(l []api.Term) []api.Term {
	l = slices.Clone(l)
	for i, t := range l {
		l[i] = Term(t)
	}
	return l
}

// Decl is a declaration in memory of its own.
func Decl(d api.Decl) api.Decl {
	d.Type, d.Body = Term(d.Type), Term(d.Body)
	d.Params = Terms(d.Params)
	d.Sort = Level(d.Sort)
	d.Members, d.Ctors = slices.Clone(d.Members), slices.Clone(d.Ctors)
	for i, m := range d.Members {
		d.Members[i].Index = Terms(m.Index)
	}
	for i, c := range d.Ctors {
		d.Ctors[i].Type = Term(c.Type)
	}
	return d
}

// Core is a core declaration in memory of its own.
func Core(c api.Core) api.Core {
	c.Type, c.Body = Term(c.Type), Term(c.Body)
	return c
}
