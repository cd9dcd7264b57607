package kind

import "lariat/api"

// throw leaves all work with a fault at that place.
func throw(code api.Errno, line, col int) {
	panic(api.Fault{Code: code, Line: line, Col: col})
}

// refuse throws a fault at an expression.
func refuse(code api.Errno, x *api.Expr) { throw(code, x.Line, x.Col) }

// caught: what comes of a work, or the fault that was thrown in it.
func caught[T any](work func() T) (done T, fault api.Fault) {
	defer func() {
		switch thrown := recover().(type) {
		case nil:
		case api.Fault:
			fault = thrown
		default:
			panic(thrown) // no fault of what was looked at: it isn't for this call to hide
		}
	}()
	return work(), api.Fault{}
}
