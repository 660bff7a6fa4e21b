// Package throw lets calls end early: an error is thrown where it is met, and told where the call began.
package throw

import "spandrel/api"

// Must throws an error, unless all holds.
func Must(e api.Errno, all ...bool) {
	for _, holds := range all {
		if !holds {
			panic(e)
		}
	}
}

// thrown is the error that was thrown; of a panic that is none it is the other one.
func thrown(r any, other api.Errno) api.Errno {
	if e, ok := r.(api.Errno); ok {
		return e
	}
	return other
}

// Told is what a call tells, and OK; or nothing, and the error that it throws, or the other one, if it ends by another panic.
func Told[T any](other api.Errno, ask func() T) (out T, e api.Errno) {
	defer func() {
		if r := recover(); r != nil {
			var none T
			out, e = none, thrown(r, other)
		}
	}()
	return ask(), api.OK
}

// Holds says whether a call throws nothing.
func Holds(ask func()) bool {
	_, e := Told(api.ErrNone, func() int {
		ask()
		return 0
	})
	return e == api.OK
}

// Some is what a call tells; nothing, if it throws anything.
func Some[T any](ask func() T) T {
	out, _ := Told(api.ErrNone, ask)
	return out
}
