package label

import (
	"errors"

	"odometer/api"
)

// fault is what is wrong with a series, or with a text that is read. It wraps the error's number, or the fault of a part.
type fault struct {
	what string
	err  error
}

// Error is what is wrong, and behind it what it wraps.
func (f *fault) Error() string { return f.what + ": " + f.err.Error() }

// Unwrap is what it wraps.
func (f *fault) Unwrap() error { return f.err }

// errno is the error's number that an error wraps: this layer has but one.
func errno(err error) api.Errno {
	if errors.Is(err, api.ErrLabel) {
		return api.ErrLabel
	}
	return api.OK
}
