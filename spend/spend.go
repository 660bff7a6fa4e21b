// Package spend keeps the fuel of calls.
package spend

import (
	"spandrel/api"
	"spandrel/term"
	"spandrel/throw"
)

// Fuel is what is left to be spent.
type Fuel struct{ Left int }

// Right says whether there may be so much fuel.
func Right(left int) bool { return left >= 0 && left <= api.MaxFuel }

// Pay spends so much, and throws ErrFuel, if that is more than is left.
func (f *Fuel) Pay(cost int) {
	throw.Must(api.ErrFuel, cost <= f.Left)
	f.Left -= cost
}

// Rest takes over what a call left, and throws its error.
func (f *Fuel) Rest(left int, e api.Errno) {
	throw.Must(e, e == api.OK)
	f.Left = left
}

// Told is what a call tells with some fuel, what is left then, and OK; or nothing, and its error: ErrArg, where there may not be so much fuel.
func Told[T any](left int, ask func(f *Fuel) T) (out T, rest int, e api.Errno) {
	if !Right(left) {
		return out, 0, api.ErrArg
	}
	f := &Fuel{left}
	out, e = throw.Told(api.ErrFuel, func() T { return ask(f) })
	if e != api.OK {
		return out, 0, e
	}
	return out, f.Left, api.OK
}

// Cost is how many nodes b has with a put for its variable.
func Cost(b, a api.Term) int {
	cost := term.Size(b)
	if uses := term.Uses(b, 0); uses > 0 {
		cost += uses * (term.Size(a) - 1)
	}
	return cost
}

// Put is b with a put for its variable, paid ahead of it: no more is laid than there is fuel.
func (f *Fuel) Put(b, a api.Term) api.Term {
	f.Pay(Cost(b, a))
	return term.Put(b, a)
}
