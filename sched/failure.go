package sched

import "orpiment/api"

// failure is an error on its way to the exported function: it leaves the functions in between by a panic.
type failure api.Errno

// require fails with an error unless a condition holds.
func require(holds bool, e api.Errno) {
	if !holds {
		panic(failure(e))
	}
}

// must fails with the error of a call, if there is one.
func must(e api.Errno) { require(e == api.OK, e) }

// value returns the value of a call, or fails with its error.
func value[T any](v T, e api.Errno) T {
	must(e)
	return v
}

// caught returns the error of an exported function from what it recovered.
func caught(recovered any) api.Errno {
	if recovered == nil {
		return api.OK
	}
	// Anything but a failure would be a mistake of this package, and must not look like a success.
	return api.Errno(recovered.(failure))
}
