// Package tests holds the tests of all layers, a file a chapter: they stand together, for they share their terms and declarations.
package tests

import (
	"fmt"
	"math/rand"
	"reflect"
	"strconv"
	"testing"

	"spandrel/api"
)

// lv is a level of parts, two numbers each.
func lv(l ...int) (out api.Level) {
	for i := 0; i+1 < len(l); i += 2 {
		out.Parts = append(out.Parts, api.Part{Var: l[i], Plus: l[i+1]})
	}
	return out
}

// same says whether two things are one, nil lists and empty ones being one.
func same(a, b any) bool {
	return differ(reflect.ValueOf(a), reflect.ValueOf(b), "") == ""
}

// differ is the place of the first part in which two things differ, and what they have there.
func differ(a, b reflect.Value, place string) string {
	if a.Kind() != b.Kind() || a.Type() != b.Type() {
		return place + ": other types"
	}
	switch a.Kind() {
	case reflect.Slice:
		if a.Len() != b.Len() {
			return place + ": length"
		}
		for i := range a.Len() {
			if d := differ(a.Index(i), b.Index(i), place+"["+strconv.Itoa(i)+"]"); d != "" {
				return d
			}
		}
		return ""
	case reflect.Struct:
		for i := range a.NumField() {
			if d := differ(a.Field(i), b.Field(i), place+"."+a.Type().Field(i).Name); d != "" {
				return d
			}
		}
		return ""
	}
	if a.Interface() != b.Interface() {
		return fmt.Sprint(place, ": ", a, " and ", b)
	}
	return ""
}

// want fails the test, unless got is as wanted.
func want(t *testing.T, what string, got, wanted any) {
	t.Helper()
	if d := differ(reflect.ValueOf(got), reflect.ValueOf(wanted), ""); d != "" {
		t.Fatalf("%s: got %.300s, want %.300s: at %s", what, fmt.Sprint(got), fmt.Sprint(wanted), d)
	}
}

// chance is a row of numbers that is the same each time.
func chance(seed int64) *rand.Rand { return rand.New(rand.NewSource(seed)) }

// Terms, short.
func v(n int) api.Term                  { return api.Term{Kind: api.KVar, Num: n} }
func sort(l ...int) api.Term            { return api.Term{Kind: api.KSort, Levels: []api.Level{lv(l...)}} }
func pi(a, b api.Term) api.Term         { return node(api.KPi, a, b) }
func lam(a, b api.Term) api.Term        { return node(api.KLam, a, b) }
func let(a, t, b api.Term) api.Term     { return node(api.KLet, a, t, b) }
func sigma(a, b api.Term) api.Term      { return node(api.KSigma, a, b) }
func tree(a, b api.Term) api.Term       { return node(api.KTree, a, b) }
func pair(a, b api.Term) api.Term       { return node(api.KPair, a, b) }
func fst(p api.Term) api.Term           { return node(api.KFst, p) }
func snd(p api.Term) api.Term           { return node(api.KSnd, p) }
func sup(a, f api.Term) api.Term        { return node(api.KSup, a, f) }
func idOf(a, x, y api.Term) api.Term    { return node(api.KId, a, x, y) }
func refl() api.Term                    { return node(api.KRefl) }
func fin(n int) api.Term                { return api.Term{Kind: api.KFin, Num: n} }
func elem(n, of int) api.Term           { return api.Term{Kind: api.KElem, Num: n, At: of} }
func self(m int) api.Term               { return api.Term{Kind: api.KSelf, At: m} }
func treeRec(kids ...api.Term) api.Term { return node(api.KTreeRec, kids...) }
func jay(kids ...api.Term) api.Term     { return node(api.KJ, kids...) }

// node is a term of a kind and its kids.
func node(k api.TermKind, kids ...api.Term) api.Term { return api.Term{Kind: k, Kids: kids} }

// cas is a case: the motive, the branches, the element.
func cas(p, x api.Term, branches ...api.Term) api.Term {
	kids := append([]api.Term{p}, branches...)
	return api.Term{Kind: api.KCase, At: len(branches), Kids: append(kids, x)}
}

// app is a term at arguments.
func app(f api.Term, args ...api.Term) api.Term {
	for _, a := range args {
		f = node(api.KApp, f, a)
	}
	return f
}

// pis and lams lay types above the last one of some terms.
func pis(l ...api.Term) api.Term {
	b := l[len(l)-1]
	for i := len(l) - 2; i >= 0; i-- {
		b = pi(l[i], b)
	}
	return b
}

func lams(l ...api.Term) api.Term {
	b := l[len(l)-1]
	for i := len(l) - 2; i >= 0; i-- {
		b = lam(l[i], b)
	}
	return b
}

// name is a term of a kind with a number, a place and levels.
func name(k api.TermKind, num, at int, levels ...api.Level) api.Term {
	return api.Term{Kind: k, Num: num, At: at, Levels: levels}
}

func con(num int, levels ...api.Level) api.Term      { return name(api.KConst, num, 0, levels...) }
func ind(num, at int, levels ...api.Level) api.Term  { return name(api.KInd, num, at, levels...) }
func ctor(num, at int, levels ...api.Level) api.Term { return name(api.KCtor, num, at, levels...) }
func rec(num, at int, levels ...api.Level) api.Term  { return name(api.KRec, num, at, levels...) }
