package request_test

import (
	"strings"
	"testing"

	"odometer/api"
	"odometer/request"
)

const (
	hostBytes = "abcdefghijklmnopqrstuvwxyzABCDEFGHIJKLMNOPQRSTUVWXYZ0123456789-.:[]"
	pathBytes = "!\"$%&'()*+,-./0123456789:;<=>?@ABCDEFGHIJKLMNOPQRSTUVWXYZ[\\]^_`abcdefghijklmnopqrstuvwxyz{|}~"
)

// checkHost holds MayHost, Bytes, Of and Ahead to whether it is a host.
func checkHost(t *testing.T, host string, want bool) {
	t.Helper()
	if is := request.MayHost(host); is != want {
		t.Errorf("MayHost(%.60q), of %d bytes, = %v", host, len(host), is)
	}
	checkPair(t, host, "/", want)
}

// checkPath holds MayPath, Bytes, Of and Ahead to whether it is a path.
func checkPath(t *testing.T, path string, want bool) {
	t.Helper()
	if is := request.MayPath(path); is != want {
		t.Errorf("MayPath(%.60q), of %d bytes, = %v", path, len(path), is)
	}
	checkPair(t, "h", path, want)
}

func checkPair(t *testing.T, host, path string, want bool) {
	t.Helper()
	one := text(host, path)
	if !want {
		if b, e := request.Bytes(host, path); len(b) != 0 || e != api.ErrArg {
			t.Errorf("Bytes(%.60q, %.60q) = %.300q, %v", host, path, b, e)
		}
		checkNone(t, one)
		checkAhead(t, one, 0)
		return
	}
	if b, e := request.Bytes(host, path); string(b) != one || e != api.OK {
		t.Errorf("Bytes(%.60q, %.60q) = %.300q, %v", host, path, b, e)
	}
	if is, at, e := request.Of([]byte(one)); is != host || at != path || e != api.OK {
		t.Errorf("Of(%.300q) = %.60q, %.60q, %v", one, is, at, e)
	}
	checkAhead(t, one, len(one))
}

// P5.1

func TestEachByteOfAHost(t *testing.T) {
	for i := range 256 {
		c := string([]byte{byte(i)})
		want := strings.Contains(hostBytes, c)
		checkHost(t, c, want)
		for _, s := range []string{c + "ab", "a" + c + "b", "ab" + c, c + c, strings.Repeat("a", 254) + c} {
			checkHost(t, s, want)
		}
	}
}

func TestEachByteOfAPath(t *testing.T) {
	for i := range 256 {
		c := string([]byte{byte(i)})
		want := strings.Contains(pathBytes, c)
		checkPath(t, c, c == "/")
		checkPath(t, c+"/", c == "/")
		for _, s := range []string{"/" + c, "/a" + c + "b", "/ab" + c, "/" + c + c, "/" + strings.Repeat("a", 1022) + c} {
			checkPath(t, s, want)
		}
	}
}

func TestLengthsOfHosts(t *testing.T) {
	for size := range 600 {
		checkHost(t, strings.Repeat("a", size), 1 <= size && size <= 255)
	}
	checkHost(t, strings.Repeat("a", 1<<20), false)
	checkHost(t, strings.Repeat("é", 127), false)
	checkHost(t, hostBytes, true)
}

func TestLengthsOfPaths(t *testing.T) {
	checkPath(t, "", false)
	for size := range 1300 {
		checkPath(t, "/"+strings.Repeat("a", size), size <= 1023)
		checkPath(t, strings.Repeat("a", size), false)
	}
	checkPath(t, "/"+strings.Repeat("a", 1<<20), false)
	checkPath(t, "/"+pathBytes, true)
	checkPath(t, pathBytes, false)
}
