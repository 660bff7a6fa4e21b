// Package tests holds the tests of all layers, a file a chapter: they stand together, for they share their terms and declarations.
package tests

import (
	"math/rand"
	"reflect"
	"testing"

	"spandrel/api"
)

// lv is a level of parts, two numbers each.
func lv(l ...int) (out api.Level) {
	for i := 0; i+1 < len(l); i += 2 {
		out.Parts = append(out.Parts, api.Part{Var: l[i], Plus: l[i+1]})
	}
	return out
}

// same says whether two things are one, nil lists and empty ones being one.
func same(a, b any) bool {
	return sameValue(reflect.ValueOf(a), reflect.ValueOf(b))
}

func sameValue(a, b reflect.Value) bool {
	if a.Kind() != b.Kind() || a.Type() != b.Type() {
		return false
	}
	switch a.Kind() {
	case reflect.Slice:
		if a.Len() != b.Len() {
			return false
		}
		for i := range a.Len() {
			if !sameValue(a.Index(i), b.Index(i)) {
				return false
			}
		}
		return true
	case reflect.Struct:
		for i := range a.NumField() {
			if !sameValue(a.Field(i), b.Field(i)) {
				return false
			}
		}
		return true
	}
	return a.Interface() == b.Interface()
}

// want fails the test, unless got is as wanted.
func want(t *testing.T, what string, got, wanted any) {
	t.Helper()
	if !same(got, wanted) {
		t.Errorf("%s: got %v, want %v", what, got, wanted)
	}
}

// chance is a row of numbers that is the same each time.
func chance(seed int64) *rand.Rand { return rand.New(rand.NewSource(seed)) }
