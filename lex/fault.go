package lex

import (
	"errors"

	"odometer/api"
)

// fault is what is wrong with a line: what the reading of it is ended by. It wraps the error's number.
type fault struct {
	what string
	err  error
}

// Error is what is wrong, and behind it what it wraps.
func (f *fault) Error() string { return f.what + ": " + f.err.Error() }

// Unwrap is what it wraps.
func (f *fault) Unwrap() error { return f.err }

// must ends the reading of a line that is none.
func must(ok bool, what string) {
	if !ok {
		hold(api.ErrLine, what)
	}
}

// hold ends the reading by an error, if it is one.
func hold(e api.Errno, what string) {
	if e != api.OK {
		panic(&fault{what, e})
	}
}

// errno is the error's number that a panic tells. Line never panics: so another panic is told, too.
func errno(told any) api.Errno {
	e := api.ErrLine
	if err, ok := told.(error); ok {
		errors.As(err, &e)
	}
	return e
}
