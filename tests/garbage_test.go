package tests

import (
	"math"
	"math/rand"
	"testing"

	"spandrel/admit"
	"spandrel/api"
	"spandrel/arity"
	"spandrel/carry"
	"spandrel/cenv"
	"spandrel/cert"
	"spandrel/codes"
	"spandrel/conv"
	"spandrel/core"
	"spandrel/desk"
	"spandrel/elim"
	"spandrel/former"
	"spandrel/good"
	"spandrel/head"
	"spandrel/infer"
	"spandrel/level"
	"spandrel/lines"
	"spandrel/maps"
	"spandrel/nest"
	"spandrel/norm"
	"spandrel/pack"
	"spandrel/rect"
	"spandrel/sconv"
	"spandrel/script"
	"spandrel/senv"
	"spandrel/session"
	"spandrel/shead"
	"spandrel/sinfer"
	"spandrel/source"
	"spandrel/split"
	"spandrel/strict"
	"spandrel/tele"
	"spandrel/term"
)

// junk makes things that are mostly wrong.
type junk struct{ *rand.Rand }

func (j junk) number() int {
	n := []int{0, 0, 0, 1, 1, 2, 3, -1, 7, math.MaxInt, math.MinInt, api.MaxNum, api.MaxNum + 1}
	return n[j.Intn(len(n))]
}

// few is a number that is not great.
func (j junk) few() int { return j.Intn(12) - 2 }

func (j junk) level() (l api.Level) {
	for range j.Intn(4) {
		l.Parts = append(l.Parts, api.Part{Var: j.number(), Plus: j.number()})
	}
	return l
}

func (j junk) levels() (l []api.Level) {
	for range j.Intn(3) {
		l = append(l, j.level())
	}
	return l
}

func (j junk) term(deep int) api.Term {
	if j.Intn(3) == 0 {
		return sourceTerm(j.Rand, deep, 2)
	}
	if j.Intn(3) == 0 {
		return coreTerm(j.Rand, deep, 2)
	}
	t := api.Term{Kind: api.TermKind(j.Intn(27) - 1), Num: j.number(), At: j.number(), Levels: j.levels()}
	if deep > 0 {
		for range j.Intn(6) {
			t.Kids = append(t.Kids, j.term(deep-1))
		}
	}
	return t
}

func (j junk) terms() (l []api.Term) {
	for range j.Intn(4) {
		l = append(l, j.term(2))
	}
	return l
}

func (j junk) decl() api.Decl {
	all := append(blocks(), world()...)
	d := all[j.Intn(len(all))]
	if j.Intn(3) == 0 {
		d = api.Decl{Kind: api.DeclKind(j.Intn(6) - 1), Type: j.term(2), Body: j.term(2)}
	}
	switch j.Intn(6) {
	case 0:
		d.Levels = j.few()
	case 1:
		d.Params = j.terms()
	case 2:
		d.Sort = j.level()
	case 3:
		d.Members = append(d.Members[:len(d.Members):len(d.Members)], api.Member{Index: j.terms()})
	case 4:
		d.Ctors = append(d.Ctors[:len(d.Ctors):len(d.Ctors)], api.Ctor{Member: j.number(), Type: j.term(3)})
	}
	return d
}

func (j junk) decls() (l []api.Decl) {
	for range j.Intn(6) {
		l = append(l, j.decl())
	}
	if j.Intn(2) == 0 {
		return world()
	}
	return l
}

func (j junk) rule() (r api.Rule) {
	r = api.Rule{Member: j.few(), Index: j.terms()}
	for range j.Intn(4) {
		r.Args = append(r.Args, api.Arg{Rec: j.Intn(2) == 0, Type: j.term(2), Tele: j.terms(), Member: j.few(), Index: j.terms()})
	}
	return r
}

func (j junk) rules(d api.Decl) (l []api.Rule) {
	if j.Intn(2) == 0 {
		return readRules(d)
	}
	for range d.Ctors {
		l = append(l, j.rule())
	}
	return l
}

func (j junk) cores() []api.Core {
	l := append(coreEnv(), natCore()...)
	for range j.Intn(3) {
		l = append(l, api.Core{Levels: j.few(), Type: j.term(2), Has: j.Intn(2) == 0, Body: j.term(2)})
	}
	j.Shuffle(len(l), func(a, b int) { l[a], l[b] = l[b], l[a] })
	return l
}

// TestGarbage holds that no call panics, and that all end, whatever they are given.
func TestGarbage(t *testing.T) {
	j := junk{chance(99)}
	for range 6000 {
		l, n, far := j.level(), j.number(), j.few()
		level.Right(l, n)
		level.Norm(l)
		level.Num(n)
		level.Var(n)
		level.Succ(l)
		level.Max(l, j.level())
		level.Put(l, j.levels())
		level.Leq(l, j.level())
		level.Same(l, j.level())
		level.Value(l, []int{n, j.number()})
		x, y, row := j.term(4), j.term(3), j.terms()
		term.Right(x)
		term.Lift(x, n, j.number())
		term.Put(x, row...)
		term.Levels(x, j.levels())
		term.Free(x, n, j.number())
		term.Uses(x, n)
		term.Same(x, y)
		tele.Spine(x)
		tele.Open(x, n)
		tele.Lifts(row, n, j.number())
		tele.Puts(row, y, x)
		tele.Vars(far, n)
		tele.Own(far)
		consts := []int{0, n, 2}
		core.Right(n, j.number(), consts, x)
		pack.PutTerm(x)
		if b, ok := pack.PutDecl(j.decl()); ok {
			pack.GetAll(b)
		}
		env := j.cores()
		head.Whnf(env, x, 500)
		head.Step(env, x)
		norm.Norm(env, x, 500)
		norm.Normal(env, x)
		conv.Conv(env, x, y, 500)
		conv.Leq(env, x, y, 500)
		infer.Infer(env, far, row, x, 500)
		infer.Check(env, far, row, x, y, 500)
		infer.Sort(env, 2, nil, x, 500)
		cenv.All(env, 500)
	}
}

// TestGarbageSource does so for the source, and for what carries it over.
func TestGarbageSource(t *testing.T) {
	j := junk{chance(100)}
	for range 800 {
		decls, d, x, y, row := j.decls(), j.decl(), j.term(4), j.term(3), j.terms()
		n, far, num := j.number(), j.few(), j.few()
		source.Right(decls, far, n, num, x)
		source.Decl(decls, d)
		split.Rules(d)
		split.Type(j.rule())
		rules := j.rules(d)
		rect.Fill(x, n, j.levels(), far, num)
		rect.Member(d, num)
		rect.Ctor(d, n, num)
		rect.Row(d, rules, n)
		rect.Rec(d, rules, num, far)
		rect.Iota(d, rules, num, far, j.levels(), row, j.terms(), j.terms())
		shead.Whnf(decls, x, 500)
		shead.Step(decls, x)
		sconv.Conv(decls, x, y, 500)
		sconv.Leq(decls, x, y, 500)
		sinfer.Infer(decls, far, row, x, 500)
		sinfer.Check(decls, far, row, x, y, 500)
		sinfer.Level(decls, far, nil, x, 500)
		arity.Block(decls, d, 500)
		strict.Param(decls, num, far)
		strict.Positive(decls, d)
		nest.Unfold(decls, d)
		nest.Instances(decls, d)
		senv.Add(decls, d, 500)
		senv.All(decls, 500)
		at := carry.At(decls)
		carry.Term(decls, []int{n, num}, x)
		carry.Block(decls, at, d)
		carry.Rules(decls, at, rules)
		r := j.rule()
		codes.Parts(x, far)
		codes.Types(r)
		codes.Tele(r, num, row, far)
		codes.Index(r, num, row, far)
		codes.End(r, row, far)
		codes.Const(d, n, far)
		codes.Codes(d, rules, n)
		good.Row(d, r, n, x, far)
		good.Table(d, r, n, num, x, y, far)
		good.At(r, num)
		good.Want(d, r, x, far)
		good.Wants(d, r, num, x, far)
		good.Kids(d, r, x, y, far)
		good.Good(d, rules, n)
		former.Named(d, n, x)
		former.Form(d, rules, n)
		elim.Mot(d, n, x, y, far)
		elim.Elim(d, rules, n)
		cert.Cert(d, rules, n)
		maps.Back(decls, d, x, far)
		maps.To(decls, d, num, far)
		maps.From(decls, d, num, far)
		env := api.Env{Decls: decls, Core: j.cores(), At: []int{n, num, 5}}
		admit.Core(env, d)
		admit.Admit(env, d, 2000)
		admit.Judge(env, far, row, x, 500)
		script.Show(natNames(), []string{"u", "", "(", "max"}, x)
	}
}

// TestGarbageScripts does so for scripts.
func TestGarbageScripts(t *testing.T) {
	j := junk{chance(101)}
	parts := []string{"(", "(", "(", ")", ")", ")", " ", "axiom ", "def ", "block ", "judge ", "head ", "same ", "norm ", "core ", "stat", "fuel 7", "pi ", "lam ", "let ", "at ", "rec ", "type ", "max ", "+ ", "() ", "a ", "b ", "u ", "0 ", "1 ", "(a (type 0)) ", "(type 0) ", "axiom a () (type 0)", ";", "\n", "\xff"}
	for range 20000 {
		text := ""
		for range j.Intn(25) {
			text += parts[j.Intn(len(parts))]
		}
		desk.Run(text)
		l, _ := lines.Read(text)
		for _, x := range l {
			script.Level([]string{"u"}, x)
			script.Term(natNames(), []string{"u"}, []string{"b"}, []string{"a"}, x)
			script.Decl(natNames(), j.number(), x)
		}
		pack.GetAll([]byte(text))
		pack.GetTerm([]byte(text))
	}
	s, _ := session.New(1000)
	for range 3000 {
		s.Admit(j.decl())
		s.Judge(j.few(), j.term(3))
		s.Head(j.few(), j.term(3))
		s.Norm(j.few(), j.term(3))
		s.Same(j.few(), j.term(3), j.term(3))
	}
	if stat := s.Stat(); stat.Calls != 15000 {
		t.Error("calls", stat)
	}
}
