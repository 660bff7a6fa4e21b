package maps

import (
	"slices"

	"spandrel/api"
	"spandrel/build"
	"spandrel/tele"
)

// motive is a function of a member's index types, and of the member by the one answer; it tells the member by the other one.
func (w *work) motive(m int, from, to member) api.Term {
	index := w.Members[m].Index
	n := len(index)
	types := append(slices.Clone(index), from(m, n, tele.Vars(n, 0)...))
	return tele.Lams(types, to(m, n+1, tele.Vars(n, 1)...))
}

// method is a rule of the unfolded block at work, as a method: its arguments, and what is assumed of some.
type method struct {
	*work
	rule  api.Rule
	types []api.Term
	held  []int // of which arguments something is assumed
}

// method lays the types of a rule's arguments, its members being by the one answer, and of what is assumed of some, they being by the other one.
func (w *work) method(c int, from, to member, assumed func(i int) bool) *method {
	m := &method{work: w, rule: w.rules[c]}
	for i, a := range m.rule.Args {
		if !a.Rec {
			m.types = append(m.types, a.Type)
			continue
		}
		n := len(a.Tele)
		m.types = append(m.types, tele.Pis(a.Tele, from(a.Member, i+n, a.Index...)))
	}
	for i, a := range m.rule.Args {
		if !assumed(i) {
			continue
		}
		must(a.Rec)
		n, far := len(a.Tele), len(m.types)-i
		m.types = append(m.types, tele.Pis(tele.Lifts(a.Tele, far, 0), to(a.Member, i+far+n, lifts(a.Index, far, n)...)))
		m.held = append(m.held, i)
	}
	return m
}

// far is how many binders there are, arguments and assumptions.
func (m *method) far() int { return len(m.types) }

// arg is the variable of an argument.
func (m *method) arg(i int) api.Term { return build.Var(m.far() - 1 - i) }

// assumption is the variable of what is assumed of an argument.
func (m *method) assumption(i int) api.Term {
	return build.Var(len(m.held) - 1 - slices.Index(m.held, i))
}

// args are the arguments as they become.
func (m *method) args(become func(i int, a api.Arg) api.Term) []api.Term {
	var out []api.Term
	for i, a := range m.rule.Args {
		out = append(out, become(i, a))
	}
	return out
}

// whole is the method of which this is told.
func (m *method) whole(t api.Term) api.Term { return tele.Lams(m.types, t) }

// to is the map to a member.
func (w *work) to(i, at int) api.Term {
	var args []api.Term
	for m := range w.Members {
		args = append(args, w.motive(m, w.here, w.back))
	}
	for c := range w.Ctors {
		args = append(args, w.methodTo(c))
	}
	head := api.Term{Kind: api.KRec, Num: w.num, At: w.list[i].First + at, Levels: append(tele.Own(w.Levels), w.greatest())}
	return tele.Lams(w.Params, tele.Apps(tele.Apps(head, tele.Vars(len(w.Params), 0)...), args...))
}

// methodTo is the method of the map to at a constructor.
func (w *work) methodTo(c int) api.Term {
	rule := w.rules[c]
	m := w.method(c, w.here, w.back, func(i int) bool { return rule.Args[i].Rec })
	own := len(w.Ctors) - len(w.places)
	args := m.args(func(i int, a api.Arg) api.Term {
		if c >= own && a.Rec && a.Member >= w.own {
			return m.assumption(i)
		}
		return m.arg(i)
	})
	if c < own {
		return m.whole(w.name(api.KCtor, c, m.far(), args...))
	}
	p := w.places[c-own]
	return m.whole(w.there(p.instance, api.KCtor, p.ctor, m.far(), args...))
}

// from is the map from a member.
func (w *work) from(i, at int) api.Term {
	in := w.list[i]
	var args []api.Term
	for m := range in.block.Members {
		args = append(args, w.motive(in.First+m, w.back, w.here))
	}
	for c := range in.rules {
		args = append(args, w.methodFrom(i, c))
	}
	head := api.Term{Kind: api.KRec, Num: in.Num, At: at, Levels: append(slices.Clone(in.Levels), w.Sort)}
	return tele.Lams(w.Params, tele.Apps(tele.Apps(head, w.heads(i, 0)...), args...))
}

// methodFrom is the method of the map from at a constructor of an instance's block.
func (w *work) methodFrom(i, c int) api.Term {
	in := w.list[i]
	own := in.rules[c].Args
	m := w.method(in.first+c, w.back, w.here, func(j int) bool { return own[j].Rec })
	args := m.args(func(j int, a api.Arg) api.Term {
		switch {
		case own[j].Rec:
			return m.assumption(j)
		case w.other(own[j], a):
			return m.mapped(j, a)
		}
		return m.arg(j)
	})
	return m.whole(w.name(api.KCtor, in.first+c, m.far(), args...))
}

// mapped is an argument of another instance's member, led from there by its own map.
func (m *method) mapped(j int, a api.Arg) api.Term {
	i := m.instance(a.Member)
	n, far := len(a.Tele), m.far()-j
	f := tele.Apps(m.from(i, a.Member-m.list[i].First), tele.Vars(len(m.Params), m.far()+n)...)
	x := tele.Apps(build.Var(far-1+n), tele.Vars(n, 0)...)
	return tele.Lams(tele.Lifts(a.Tele, far, 0), tele.Apps(f, append(lifts(a.Index, far, n), x)...))
}
