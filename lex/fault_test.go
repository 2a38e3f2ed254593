package lex

import (
	"errors"
	"testing"

	"odometer/api"
)

// ended is what a reading is ended by.
func ended(do func()) (told any) {
	defer func() { told = recover() }()
	do()
	return nil
}

// P9.1: what ends a reading wraps the error's number.
func TestFaultsWrap(t *testing.T) {
	for _, e := range []api.Errno{api.ErrLine, api.ErrLabel, api.ErrNumber, api.ErrRange} {
		told := ended(func() { hold(e, "a part") })
		err, ok := told.(error)
		if !ok || !errors.Is(err, e) || errno(told) != e {
			t.Errorf("%v: %v, %v", e, told, errno(told))
		}
		if want := "a part: " + e.Error(); ok && err.Error() != want {
			t.Errorf("%q, want %q", err.Error(), want)
		}
	}
	if told := ended(func() { must(false, "a part") }); errno(told) != api.ErrLine {
		t.Errorf("%v", told)
	}
	if told := ended(func() { hold(api.OK, "a part"); must(true, "a part") }); told != nil {
		t.Errorf("no error: %v", told)
	}
}

// P9.3: a panic of another kind ends by an error, too.
func TestOtherPanics(t *testing.T) {
	for _, told := range []any{"text", 7, errors.New("another error"), ended(func() { _ = []int{}[len(t.Name())] })} {
		if e := errno(told); e != api.ErrLine {
			t.Errorf("%v: %v", told, e)
		}
	}
}
