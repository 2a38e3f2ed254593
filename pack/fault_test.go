package pack

import (
	"errors"
	"testing"

	"odometer/api"
)

// P2.2: a fault of a part is asked for through the fault of the whole.
func TestFaultsWrap(t *testing.T) {
	_, _, err := readText([]byte{0x80}, 9)
	if !errors.Is(err, api.ErrLength) || errno(err) != api.ErrLength {
		t.Errorf("%v: %v", err, errno(err))
	}
	if want := "a text's length: a number that ends too soon: length"; err.Error() != want {
		t.Errorf("%q, want %q", err.Error(), want)
	}
	if n := errno(nil); n != api.OK {
		t.Errorf("no error: %v", n)
	}
}
