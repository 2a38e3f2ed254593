package head_test

import (
	"strings"
	"testing"

	"odometer/head"
)

const nameBytes = "abcdefghijklmnopqrstuvwxyzABCDEFGHIJKLMNOPQRSTUVWXYZ0123456789!#$%&'*+-.^_`|~"

// textBytes are the bytes that may stand in text.
func textBytes() string {
	b := []byte{9}
	for c := 32; c <= 126; c++ {
		b = append(b, byte(c))
	}
	for c := 128; c <= 255; c++ {
		b = append(b, byte(c))
	}
	return string(b)
}

func checkName(t *testing.T, s string, want bool) {
	t.Helper()
	if is := head.MayName(s); is != want {
		t.Errorf("MayName(%.60q), of %d bytes, = %v", s, len(s), is)
	}
}

func checkText(t *testing.T, s string, want bool) {
	t.Helper()
	if is := head.MayText(s); is != want {
		t.Errorf("MayText(%.60q), of %d bytes, = %v", s, len(s), is)
	}
}

// P6.3

func TestEachByteOfNamesAndTexts(t *testing.T) {
	for i := range 256 {
		c := string([]byte{byte(i)})
		name, text := strings.Contains(nameBytes, c), strings.Contains(textBytes(), c)
		for _, s := range []string{c, c + c, c + "ab", "a" + c + "b", "ab" + c, strings.Repeat("a", 9000) + c, c + strings.Repeat("a", 9000)} {
			checkName(t, s, name)
			checkText(t, s, text)
		}
	}
}

func TestNames(t *testing.T) {
	for _, s := range []string{"a", "Content-Length", "x-Y_0~", "0", "-", "!", nameBytes, strings.Repeat("a", 1<<20)} {
		checkName(t, s, true)
	}
	for _, s := range []string{"", " ", "a:", ":", "a b", " a", "a ", "a\t", "a\r\n", "é", "\xff", "\u212a", "a\x00", "\x00", "(a)", "a/b", strings.Repeat("a", 1<<20) + " "} {
		checkName(t, s, false)
	}
}

func TestTexts(t *testing.T) {
	for _, s := range []string{"", " ", "\t", "a b", "\xc3 \t", "é", "\xff\xfe", "\x80", "~", ":", nameBytes, textBytes(), strings.Repeat("a ", 1<<20)} {
		checkText(t, s, true)
	}
	for _, s := range []string{"\n", "\r", "\r\n", "a\n", "\na", "\x00", "a\x00b", "\x7f", "\x1f", "\x08", "\x0a", "\x0b", "\x1b[0m", strings.Repeat("a", 1<<20) + "\n"} {
		checkText(t, s, false)
	}
}
