package script

import (
	"slices"
	"strings"

	"spandrel/api"
	"spandrel/lines"
	"spandrel/throw"
)

// declared is a declaration, and its names.
type declared struct {
	decl  api.Decl
	names []Name
}

// declarer tells a declaration: its parts, as they stand in its tree.
type declarer struct {
	words
	num  int
	kids []lines.Expr
}

// wordsOf are the words that a list of words is.
func wordsOf(x lines.Expr) []string {
	throw.Must(api.ErrShape, x.Word == "")
	var out []string
	for _, kid := range x.Kids {
		throw.Must(api.ErrShape, kid.Word != "")
		out = append(out, kid.Word)
	}
	return out
}

// firsts are the words that lists begin with, the first of which are so many words.
func firsts(x lines.Expr, count int) []string {
	throw.Must(api.ErrShape, x.Word == "")
	var out []string
	for _, kid := range x.Kids {
		throw.Must(api.ErrShape, kid.Word == "" && len(kid.Kids) >= count)
		for _, w := range kid.Kids[:count] {
			throw.Must(api.ErrShape, w.Word != "")
		}
		out = append(out, kid.Kids[0].Word)
	}
	return out
}

// binders asks whether trees are binders: of a declaration the shapes of all of them come ahead of its words.
func binders(trees []lines.Expr) {
	for _, x := range trees {
		throw.Must(api.ErrShape, binder(x))
	}
}

// fresh asks whether words may be names, those for level variables and those that are names from then on, and whether these are none yet.
func (d *declarer) fresh(levels []string, names ...string) {
	for _, w := range levels {
		throw.Must(api.ErrArg, nameable(w))
	}
	for i, w := range names {
		_, known := d.name(w)
		throw.Must(api.ErrArg, nameable(w), !known, !among(w, names[:i]...))
	}
	throw.Must(api.ErrLong, len(levels) <= api.MaxVars)
	d.levels = levels
}

// kept is a word in memory of its own.
func (d *declarer) kept(word string, k api.TermKind, at int) Name {
	return Name{Word: strings.Clone(word), Kind: k, Num: d.num, At: at, Levels: len(d.levels)}
}

// constant tells an axiom or a definition.
func (d *declarer) constant(k api.DeclKind, kids int) declared {
	throw.Must(api.ErrShape, len(d.kids) == kids && d.kids[1].Word != "")
	word := d.kids[1].Word
	d.fresh(wordsOf(d.kids[2]), word)
	t := start(d.words)
	out := api.Decl{Kind: k, Levels: len(d.levels), Type: t.term(d.kids[3], nil)}
	if k == api.DeclDef {
		out.Body = t.term(d.kids[4], nil)
	}
	return declared{out, []Name{d.kept(word, api.KConst, 0)}}
}

func (d *declarer) axiom() declared { return d.constant(api.DeclAxiom, 4) }

func (d *declarer) def() declared { return d.constant(api.DeclDef, 5) }

// shaped are the words of a block: for level variables, of its members, of its constructors; all its lists must have their shapes.
func (d *declarer) shaped() (levels, members, ctors []string) {
	throw.Must(api.ErrShape, len(d.kids) == 6)
	levels = wordsOf(d.kids[1])
	throw.Must(api.ErrShape, d.kids[2].Word == "")
	binders(d.kids[2].Kids)
	members, ctors = firsts(d.kids[4], 1), firsts(d.kids[5], 2)
	for _, m := range d.kids[4].Kids {
		binders(m.Kids[1:])
	}
	for _, c := range d.kids[5].Kids {
		throw.Must(api.ErrShape, len(c.Kids) == 3)
	}
	return levels, members, ctors
}

// block tells a block.
func (d *declarer) block() declared {
	levels, members, ctors := d.shaped()
	d.fresh(levels, slices.Concat(members, ctors)...)
	out := api.Decl{Kind: api.DeclBlock, Levels: len(levels)}
	t := start(d.words)
	var params []string
	out.Params, params = t.row(d.kids[2].Kids, nil)
	out.Sort = t.level(d.kids[3])
	for _, m := range d.kids[4].Kids {
		index, _ := t.row(m.Kids[1:], params)
		out.Members = append(out.Members, api.Member{Index: index})
	}
	t.members = members
	for _, c := range d.kids[5].Kids {
		m := slices.Index(members, c.Kids[1].Word)
		throw.Must(api.ErrNone, m >= 0)
		out.Ctors = append(out.Ctors, api.Ctor{Member: m, Type: t.term(c.Kids[2], params)})
	}
	return declared{out, d.blockNames(members, ctors)}
}

// blockNames are the names of a block's members and constructors.
func (d *declarer) blockNames(members, ctors []string) []Name {
	var out []Name
	for at, w := range members {
		out = append(out, d.kept(w, api.KInd, at))
	}
	for at, w := range ctors {
		out = append(out, d.kept(w, api.KCtor, at))
	}
	return out
}

// Decl is the declaration that a tree tells, and its names.
func Decl(names []Name, num int, x lines.Expr) (api.Decl, []Name, api.Errno) {
	out, e := throw.Told(api.ErrShape, func() declared {
		throw.Must(api.ErrShape, x.Word == "" && len(x.Kids) > 0)
		d := &declarer{words{names: names}, num, x.Kids}
		tell, ok := map[string]func() declared{"axiom": d.axiom, "def": d.def, "block": d.block}[x.Kids[0].Word]
		throw.Must(api.ErrShape, ok)
		return tell()
	})
	return out.decl, out.names, e
}
