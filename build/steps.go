package build

import "synchrony/api"

// execute executes steps one after the other, until one returns an error.
func execute(steps ...func() api.Errno) api.Errno {
	for _, step := range steps {
		if e := step(); e != api.OK {
			return e
		}
	}
	return api.OK
}

// step returns the step that puts what f makes of *from into *to.
func step[A, B any](f func(x A) (B, api.Errno), from *A, to *B) func() api.Errno {
	return func() (e api.Errno) {
		*to, e = f(*from)
		return e
	}
}

// selected returns the step if it is selected, and otherwise one that does nothing.
func selected(ok bool, step func() api.Errno) func() api.Errno {
	if ok {
		return step
	}
	return func() api.Errno { return api.OK }
}
