// Package level is layer 1: see shared/doc/01-level.md.
package level

import (
	"maps"
	"slices"

	"spandrel/api"
)

// none is thrown for a level that has no normal form.
type none struct{}

// row holds parts by their variables, the greatest Plus of each.
type row struct{ parts map[int]int }

// add lays a part beside the others; the greater one of a variable stays.
func (r row) add(p api.Part) {
	if p.Var < 0 || p.Plus < 0 || p.Var > api.MaxNum || p.Plus > api.MaxNum {
		panic(none{})
	}
	if plus, ok := r.parts[p.Var]; !ok || plus < p.Plus {
		r.parts[p.Var] = p.Plus
	}
}

// top is the greatest Plus of all variables but 0, and -1 of none.
func (r row) top() int {
	top := -1
	for v, plus := range r.parts {
		if v != 0 {
			top = max(top, plus)
		}
	}
	return top
}

// work is a level at work: its row.
type work struct{ row }

// level is what the row tells, in its normal form.
func (w work) level() api.Level {
	if plus, ok := w.parts[0]; ok && plus <= max(0, w.top()) {
		delete(w.parts, 0)
	}
	var l api.Level
	for _, v := range slices.Sorted(maps.Keys(w.parts)) {
		l.Parts = append(l.Parts, api.Part{Var: v, Plus: w.parts[v]})
	}
	return l
}

// normal says whether parts are a normal form as they stand.
func normal(parts []api.Part) bool {
	for i, p := range parts {
		if p.Var < 0 || p.Plus < 0 || p.Var > api.MaxNum || p.Plus > api.MaxNum {
			return false
		}
		if i > 0 && (p.Var <= parts[i-1].Var || parts[0].Var == 0 && p.Plus >= parts[0].Plus) {
			return false
		}
	}
	return len(parts) == 0 || parts[0].Var != 0 || parts[0].Plus > 0
}

// gather is the normal form of parts; of such as have none it has no parts.
func gather(parts []api.Part) (l api.Level) {
	if normal(parts) { // most are: these need no row
		return api.Level{Parts: slices.Clone(parts)}
	}
	defer func() {
		if recover() != nil {
			l = api.Level{}
		}
	}()
	w := work{row{map[int]int{}}}
	for _, p := range parts {
		w.add(p)
	}
	return w.level()
}

// Right says whether a level is right among some variables.
func Right(l api.Level, n int) bool {
	if len(l.Parts) > api.MaxParts {
		return false
	}
	for i, p := range l.Parts {
		if p.Var < 0 || p.Var > n || p.Plus < 0 || p.Plus > api.MaxPlus {
			return false
		}
		if i > 0 && p.Var <= l.Parts[i-1].Var {
			return false
		}
	}
	return true
}

// Norm is a level's normal form.
func Norm(l api.Level) api.Level { return gather(l.Parts) }

// Num is a number's level.
func Num(n int) api.Level { return gather([]api.Part{{Var: 0, Plus: n}}) }

// Var is a variable's level.
func Var(v int) api.Level { return gather([]api.Part{{Var: v, Plus: 0}}) }

// Succ is a level, and 1.
func Succ(l api.Level) api.Level {
	up := gather(l.Parts).Parts
	if len(up) == 0 {
		return Num(1)
	}
	for i := range up {
		up[i].Plus++
	}
	return gather(up)
}

// Max is the greatest of levels.
func Max(levels ...api.Level) api.Level {
	var all []api.Part
	for _, l := range levels {
		all = append(all, l.Parts...)
	}
	return gather(all)
}

// Put puts levels for variables.
func Put(l api.Level, by []api.Level) api.Level {
	var all []api.Part
	for _, p := range gather(l.Parts).Parts {
		all = append(all, raised(p, by)...)
	}
	return gather(all)
}

// raised are the parts that a part becomes.
func raised(p api.Part, by []api.Level) []api.Part {
	var up []api.Part
	if p.Var > 0 && p.Var <= len(by) {
		up = gather(by[p.Var-1].Parts).Parts
	}
	if len(up) == 0 { // this holds of a part of Var 0, too
		return []api.Part{{Var: 0, Plus: p.Plus}}
	}
	for i := range up {
		up[i].Plus += p.Plus
	}
	return up
}

// Leq says whether a level is never above another one.
func Leq(a, b api.Level) bool {
	above := gather(b.Parts).Parts
	for _, p := range gather(a.Parts).Parts {
		covers := func(q api.Part) bool {
			return q.Plus >= p.Plus && (p.Var == 0 || q.Var == p.Var)
		}
		if !slices.ContainsFunc(above, covers) {
			return false
		}
	}
	return true
}

// Same says whether two levels are always one.
func Same(a, b api.Level) bool {
	return slices.Equal(a.Parts, b.Parts) || Leq(a, b) && Leq(b, a)
}

// Value is a level with numbers for its variables.
func Value(l api.Level, numbers []int) int {
	value := 0
	for _, p := range gather(l.Parts).Parts {
		value = max(value, number(numbers, p.Var)+p.Plus)
	}
	return value
}

// number is the number that stands for a variable; 0, where there is none that counts.
func number(numbers []int, v int) int {
	if v < 1 || v > len(numbers) {
		return 0
	}
	if n := numbers[v-1]; n >= 0 && n <= api.MaxNum {
		return n
	}
	return 0
}
