package pack

import (
	"spandrel/api"
	"spandrel/term"
	"spandrel/throw"
)

// must ends the reading, unless all holds: then bytes are those of no right thing.
func must(all ...bool) { throw.Must(api.ErrShape, all...) }

// place is how far bytes are read.
type place struct {
	bytes []byte
	at    int
}

func (p *place) end() bool { return p.at >= len(p.bytes) }

func (p *place) next() byte {
	must(!p.end())
	p.at++
	return p.bytes[p.at-1]
}

// number reads a number; no right thing has one of more than three bytes.
func (p *place) number() int {
	n := 0
	for shift := 0; shift < 21; shift += 7 {
		b := p.next()
		n |= int(b&127) << shift
		if b < 128 {
			must(b > 0 || shift == 0)
			return n
		}
	}
	panic(api.ErrShape)
}

// upTo reads a number that is at most so.
func (p *place) upTo(most int) int {
	n := p.number()
	must(n <= most)
	return n
}

// reader reads things; nodes is how many the term that is read may still have.
type reader struct {
	place
	shapes map[api.TermKind]shape
	nodes  int
}

// read reads a thing, and tells how many bytes it has, and whether there is one.
func read[T any](b []byte, get func(r *reader) T) (T, int, bool) {
	r := &reader{place: place{bytes: b}, shapes: shapes()}
	out, e := throw.Told(api.ErrShape, func() T { return get(r) })
	if e != api.OK {
		return out, 0, false
	}
	return out, r.at, true
}

func (r *reader) level() (l api.Level) {
	for range r.upTo(api.MaxParts) {
		v := r.number()
		l.Parts = append(l.Parts, api.Part{Var: v, Plus: r.number()})
	}
	return l
}

// term reads a right term.
func (r *reader) term() api.Term {
	r.nodes = api.MaxNodes
	t := r.tree(1)
	must(term.Right(t))
	return t
}

// tree reads a term so deep within; it ends ahead of one that is too deep, or has too many nodes.
func (r *reader) tree(deep int) (t api.Term) {
	r.nodes--
	must(deep <= api.MaxDeep, r.nodes >= 0)
	t.Kind = api.TermKind(r.number())
	s, ok := r.shapes[t.Kind]
	must(ok)
	if s.num {
		t.Num = r.number()
	}
	if s.at {
		t.At = r.number()
	}
	for range r.levels(s.levels) {
		t.Levels = append(t.Levels, r.level())
	}
	kids := s.kids(t.At)
	must(kids <= r.nodes)
	for range kids {
		t.Kids = append(t.Kids, r.tree(deep+1))
	}
	return t
}

// levels is how many levels there are to read.
func (r *reader) levels(which int) int {
	if which == countLevels {
		return r.upTo(api.MaxVars + 2)
	}
	return which
}

func (r *reader) row(most int) (l []api.Term) {
	for range r.upTo(most) {
		l = append(l, r.term())
	}
	return l
}

// decl reads a right declaration.
func (r *reader) decl() (d api.Decl) {
	d.Kind = api.DeclKind(r.number())
	d.Levels = r.number()
	switch d.Kind {
	case api.DeclAxiom:
		d.Type = r.term()
	case api.DeclDef:
		d.Type = r.term()
		d.Body = r.term()
	case api.DeclBlock:
		r.block(&d)
	}
	must(Right(d))
	return d
}

func (r *reader) block(d *api.Decl) {
	d.Params = r.row(api.MaxParams)
	d.Sort = r.level()
	for range r.upTo(api.MaxMembers) {
		d.Members = append(d.Members, api.Member{Index: r.row(api.MaxIndex)})
	}
	for range r.upTo(api.MaxCtors) {
		m := r.number()
		d.Ctors = append(d.Ctors, api.Ctor{Member: m, Type: r.term()})
	}
}

// all reads right declarations, up to the end.
func (r *reader) all() (l []api.Decl) {
	for !r.end() {
		must(len(l) < api.MaxDecls)
		l = append(l, r.decl())
	}
	return l
}
