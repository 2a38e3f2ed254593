package request_test

import (
	"regexp"
	"testing"

	"odometer/api"
	"odometer/request"
)

var wholeText = regexp.MustCompile(`^GET (/[!-"$-~]*) HTTP/1\.1\r\nHost: ([-.:\[\]a-zA-Z0-9]+)\r\nUser-Agent: odometer\r\nAccept: text/plain;version=0\.0\.4\r\nConnection: keep-alive\r\n\r\n`)

// reckon is the host, the path and the size of the request that stands ahead, by the chapter's words; 0: none does.
func reckon(b []byte) (string, string, int) {
	parts := wholeText.FindSubmatch(b)
	if parts == nil || len(parts[1]) > 1024 || len(parts[2]) > 255 {
		return "", "", 0
	}
	return string(parts[2]), string(parts[1]), len(parts[0])
}

// checkRead holds Of and Ahead against the chapter's words.
func checkRead(t *testing.T, b []byte) {
	t.Helper()
	host, path, size := reckon(b)
	wrong := api.OK
	if size == 0 || size < len(b) {
		host, path, wrong = "", "", api.ErrArg
	}
	if is, at, e := request.Of(b); is != host || at != path || e != wrong {
		t.Errorf("Of(%q) = %q, %q, %v, want %q, %q, %v", b, is, at, e, host, path, wrong)
	}
	whole := 0
	for size > 0 {
		whole += size
		_, _, size = reckon(b[whole:])
	}
	checkAhead(t, string(b), whole)
}

// sequence gives numbers below others, the same in each run.
func sequence() func(below int) int {
	state := uint64(1)
	return func(below int) int {
		state = state*6364136223846793005 + 1442695040888963407
		return int(state >> 33 % uint64(below))
	}
}

// P5.2, P5.3: of two requests, each byte becomes each other one, goes, or comes twice.
func TestEachByteOfARequest(t *testing.T) {
	one := text("a:8", "/m?")
	two := one + text("b", "/")
	for i := range one {
		for c := range 256 {
			b := []byte(two)
			b[i] = byte(c)
			checkRead(t, b)
			checkRead(t, b[:len(one)])
			checkRead(t, []byte(one[:i]+string([]byte{byte(c)})+one[i:]))
		}
		checkRead(t, []byte(two[:i]+two[i+1:]))
		checkRead(t, []byte(one[:i]+one[i+1:]))
		checkRead(t, []byte(one[:i]))
		checkRead(t, []byte(one[i:]))
	}
}

// P0.3
func TestBytesDoNoHarm(t *testing.T) {
	next := sequence()
	parts := []string{"GET ", "/", "/m", " HTTP/1.1", "\r\n", "Host: ", "a:80", "User-Agent: odometer\r\n", "Accept: text/plain;version=0.0.4\r\n", "Connection: keep-alive\r\n", " ", "\r", "\n", "#", "é", "\xff\x00", text("h", "/p")}
	for range 30000 {
		var b []byte
		if next(2) == 0 { // pieces of requests, in their order but for some
			for i := range 3 * 10 {
				if next(20) == 0 {
					i = next(len(parts))
				}
				b = append(b, []string{"GET ", "/m", " HTTP/1.1", "\r\n", "Host: ", "a", "\r\nUser-Agent: odometer\r\n", "Accept: text/plain;version=0.0.4\r\n", "Connection: keep-alive\r\n", "\r\n"}[i%10]...)
			}
		}
		for range next(12) {
			b = append(b, parts[next(len(parts))]...)
		}
		for range next(3) {
			if len(b) > 0 {
				b[next(len(b))] = byte(next(256))
			}
		}
		checkRead(t, b)
		if t.Failed() {
			return
		}
	}
}
