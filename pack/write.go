package pack

import "spandrel/api"

// writer lays right things down as bytes.
type writer struct {
	bytes  []byte
	shapes map[api.TermKind]shape
}

func (w *writer) number(n int) {
	for n > 127 {
		w.bytes = append(w.bytes, byte(n%128+128))
		n /= 128
	}
	w.bytes = append(w.bytes, byte(n))
}

func (w *writer) level(l api.Level) {
	w.number(len(l.Parts))
	for _, p := range l.Parts {
		w.number(p.Var)
		w.number(p.Plus)
	}
}

func (w *writer) term(t api.Term) {
	s := w.shapes[t.Kind]
	w.number(int(t.Kind))
	if s.num {
		w.number(t.Num)
	}
	if s.at {
		w.number(t.At)
	}
	if s.levels == countLevels {
		w.number(len(t.Levels))
	}
	for _, l := range t.Levels {
		w.level(l)
	}
	for _, kid := range t.Kids {
		w.term(kid)
	}
}

func (w *writer) row(l []api.Term) {
	w.number(len(l))
	for _, t := range l {
		w.term(t)
	}
}

func (w *writer) decl(d api.Decl) {
	w.number(int(d.Kind))
	w.number(d.Levels)
	switch d.Kind {
	case api.DeclAxiom:
		w.term(d.Type)
	case api.DeclDef:
		w.term(d.Type)
		w.term(d.Body)
	case api.DeclBlock:
		w.block(d)
	}
}

func (w *writer) block(d api.Decl) {
	w.row(d.Params)
	w.level(d.Sort)
	w.number(len(d.Members))
	for _, m := range d.Members {
		w.row(m.Index)
	}
	w.number(len(d.Ctors))
	for _, c := range d.Ctors {
		w.number(c.Member)
		w.term(c.Type)
	}
}
