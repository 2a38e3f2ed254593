package label

import (
	"errors"
	"testing"

	"odometer/api"
)

// P3.1: a fault of a part is asked for through the fault of the whole.
func TestFaultsWrap(t *testing.T) {
	_, _, err := read(`a{b="\x"}`)
	if !errors.Is(err, api.ErrLabel) || errno(err) != api.ErrLabel {
		t.Errorf("%v: %v", err, errno(err))
	}
	if want := "a series' labels: a label: a value: a backslash ahead of another byte: label"; err.Error() != want {
		t.Errorf("%q, want %q", err.Error(), want)
	}
	if e := errno(nil); e != api.OK {
		t.Errorf("no error: %v", e)
	}
}
