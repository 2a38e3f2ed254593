package pack

import (
	"errors"

	"odometer/api"
)

// fault is what is wrong with bytes that are read. It wraps the error's number, or the fault of a part.
type fault struct {
	what string
	err  error
}

// Error is what is wrong, and behind it what it wraps.
func (f *fault) Error() string { return f.what + ": " + f.err.Error() }

// Unwrap is what it wraps.
func (f *fault) Unwrap() error { return f.err }

// errno is the error's number that an error wraps.
func errno(err error) api.Errno {
	if err == nil {
		return api.OK
	}
	var n api.Errno
	errors.As(err, &n)
	return n
}
