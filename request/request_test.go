package request_test

import (
	"bytes"
	"strings"
	"testing"

	"odometer/api"
	"odometer/request"
)

// text is a request as the chapter tells it.
func text(host, path string) string {
	return "GET " + path + " HTTP/1.1\r\nHost: " + host + "\r\nUser-Agent: odometer\r\nAccept: text/plain;version=0.0.4\r\nConnection: keep-alive\r\n\r\n"
}

// pairs are hosts and paths of which there are requests.
func pairs() [][2]string {
	return [][2]string{
		{"a:80", "/metrics"},
		{"a", "/"},
		{"Z", "//"},
		{"0", "/~"},
		{":", "/!"},
		{"-.:[]", "/?a=b&c=%20;"},
		{"[::1]:9100", "/m?q=1"},
		{"EXAMPLE.org", "/GET/HTTP/1.1"},
		{"HTTP", "/Host:"},
		{"127.0.0.1:65535", `/"$%&'()*+,-.:;<=>?@[\]^_{|}~` + "`"},
		{strings.Repeat("h", 255), "/"},
		{"h", "/" + strings.Repeat("p", 1023)},
		{strings.Repeat("h", 255), "/" + strings.Repeat("p", 1023)},
	}
}

// noPairs are hosts and paths of which there is no request.
func noPairs() [][2]string {
	return [][2]string{
		{"", ""}, {"", "/"}, {"a", ""}, {"/", "a"},
		{"a b", "/"}, {" a", "/"}, {"a ", "/"}, {"a_b", "/"}, {"a/b", "/"}, {"a@b", "/"}, {"é", "/"}, {"a\xff", "/"}, {"a\x00", "/"},
		{"a\r\nX: y", "/"}, {"a\n", "/"}, {"a\r", "/"}, {"a\r\n", "/"},
		{"a", "x"}, {"a", " /"}, {"a", "/ "}, {"a", "/a b"}, {"a", "/#"}, {"a", "#/"}, {"a", "/a#b"}, {"a", "/é"}, {"a", "/\x7f"}, {"a", "/\t"}, {"a", "/\x00"}, {"a", "?a"}, {"a", "http://a/"}, {"a", "*"},
		{"a", "/ HTTP/1.1\r\nHost: b\r\n\r\nGET /"}, {"a", "/\n"}, {"a", "/\r"}, {"a", "/\r\n"},
		{strings.Repeat("h", 256), "/"}, {"h", "/" + strings.Repeat("p", 1024)}, {strings.Repeat("h", 256), "/" + strings.Repeat("p", 1024)},
		{strings.Repeat("h", 100000), "/" + strings.Repeat("p", 100000)},
	}
}

// made is the request of a host and a path of which there is one.
func made(t *testing.T, host, path string) []byte {
	t.Helper()
	b, e := request.Bytes(host, path)
	if e != api.OK {
		t.Fatalf("Bytes(%.60q, %.60q): %v", host, path, e)
	}
	return b
}

func checkNone(t *testing.T, b string) {
	t.Helper()
	if host, path, e := request.Of([]byte(b)); host != "" || path != "" || e != api.ErrArg {
		t.Errorf("Of(%.300q) = %.60q, %.60q, %v, want nothing, %v", b, host, path, e, api.ErrArg)
	}
}

func checkAhead(t *testing.T, b string, want int) {
	t.Helper()
	if n := request.Ahead([]byte(b)); n != want {
		t.Errorf("Ahead(%.300q), of %d bytes, = %d, want %d", b, len(b), n, want)
	}
}

// P5.1

func TestBytes(t *testing.T) {
	for _, x := range pairs() {
		if b, e := request.Bytes(x[0], x[1]); string(b) != text(x[0], x[1]) || e != api.OK {
			t.Errorf("Bytes(%.60q, %.60q) = %.300q, %v", x[0], x[1], b, e)
		}
	}
}

func TestBytesOfWhatMayNotBe(t *testing.T) {
	for _, x := range noPairs() {
		if b, e := request.Bytes(x[0], x[1]); len(b) != 0 || e != api.ErrArg {
			t.Errorf("Bytes(%.60q, %.60q) = %.300q, %v, want nothing, %v", x[0], x[1], b, e, api.ErrArg)
		}
	}
}

func TestBytesIsNewMemory(t *testing.T) {
	b := made(t, "a", "/b")
	for i := range b {
		b[i] = '?'
	}
	if b := made(t, "a", "/b"); string(b) != text("a", "/b") {
		t.Errorf("the next one is %q", b)
	}
}

// P5.2

func TestOf(t *testing.T) {
	for _, x := range pairs() {
		if host, path, e := request.Of([]byte(text(x[0], x[1]))); host != x[0] || path != x[1] || e != api.OK {
			t.Errorf("Of(the request of %.60q, %.60q) = %.60q, %.60q, %v", x[0], x[1], host, path, e)
		}
	}
}

// noRequests are texts that are no requests, and with none ahead.
func noRequests() []string {
	one := text("a:80", "/m")
	l := []string{
		" ", "\r\n", "\r\n\r\n", "GET", "GET /\r\n\r\n", "\x00",
		" " + one, "\r\n" + one, "x" + one, one[1:], one[:len(one)-1], one[:len(one)-2],
		strings.ReplaceAll(one, "\r\n", "\n"), strings.ReplaceAll(one, "\r\n", "\r"), strings.ReplaceAll(one, "\r\n", "\n\r"), strings.ReplaceAll(one, "\r\n", "\r\n\r\n"),
		strings.ToLower(one), strings.ToUpper(one),
		"GET /m HTTP/1.1\r\nUser-Agent: odometer\r\nHost: a:80\r\nAccept: text/plain;version=0.0.4\r\nConnection: keep-alive\r\n\r\n",
		"GET /m HTTP/1.1\r\nHost: a:80\r\nUser-Agent: odometer\r\nConnection: keep-alive\r\nAccept: text/plain;version=0.0.4\r\n\r\n",
		strings.Repeat("GET ", 100000), strings.Repeat("a", 100000), strings.Repeat("\r\n", 100000), "GET /" + strings.Repeat("a", 100000) + " HTTP/1.1\r\n",
	}
	for _, x := range [][2]string{
		{"GET ", "POST "}, {"GET", "get"}, {"GET ", "GET"}, {"GET ", "GET  "}, {"GET ", "GET\t"},
		{"/m", ""}, {" /m ", " "}, {"/m ", "/m  "}, {"/m ", "/m\t"}, {"/m", "m"}, {"/m", "/m /m"},
		{" HTTP", "HTTP"}, {"/1.1", "/1.0"}, {"1.1", "1.1 "}, {" HTTP/1.1", ""}, {" HTTP/1.1", " HTTP/1.1 HTTP/1.1"}, {"HTTP", "http"},
		{"\r\n", "\n"}, {"\r\n", "\r"}, {"\r\n", "\r\n\r\n"}, {"\r\n", "\r\nX: y\r\n"},
		{"Host: a:80\r\n", ""}, {"Host: a:80\r\n", "Host: a:80\r\nHost: a:80\r\n"}, {"Host", "host"}, {"Host: ", "Host:"}, {"Host: ", "Host:  "}, {"Host: ", ""}, {"Host: ", "Host: Host: "},
		{"a:80", ""}, {"a:80", "a:80 "}, {"a:80\r", "a:80"}, {"a:80\r\n", "a:80"},
		{"User-Agent: odometer\r\n", ""}, {"odometer", "odometer/1"}, {"odometer", "Odometer"}, {"odometer", "odometer "}, {"User-Agent", "user-agent"},
		{"text/plain", "text/html"}, {";version", "; version"}, {"0.0.4", "0.0.5"}, {";version=0.0.4", ""}, {"Accept: text/plain;version=0.0.4\r\n", ""},
		{"keep-alive", "close"}, {"keep-alive", "Keep-Alive"}, {"keep-alive\r\n", "keep-alive\r\nX: y\r\n"}, {"keep-alive\r\n", "keep-alive\r\n "}, {"keep-alive\r\n\r", "keep-alive\r\n"}, {"Connection: keep-alive\r\n", ""},
	} {
		l = append(l, strings.Replace(one, x[0], x[1], 1))
	}
	for _, x := range noPairs() {
		l = append(l, text(x[0], x[1]))
	}
	return l
}

func TestOfNoRequests(t *testing.T) {
	for _, s := range noRequests() {
		checkNone(t, s)
		checkAhead(t, s, 0)
		checkAhead(t, s+text("a", "/"), 0)
	}
	checkNone(t, "")
	checkAhead(t, "", 0)
	if host, path, e := request.Of(nil); host != "" || path != "" || e != api.ErrArg {
		t.Errorf("Of(nil) = %q, %q, %v", host, path, e)
	}
	if n := request.Ahead(nil); n != 0 {
		t.Errorf("Ahead(nil) = %d", n)
	}
}

func TestOfWithSomethingBehind(t *testing.T) {
	for _, x := range pairs() {
		one := text(x[0], x[1])
		for _, behind := range []string{"x", " ", "\n", "\r\n", "\x00", "G", one, one + one} {
			checkNone(t, one+behind)
		}
	}
}

func TestAhead(t *testing.T) {
	all := ""
	for _, x := range pairs() {
		one := text(x[0], x[1])
		checkAhead(t, one, len(one))
		all += one
		checkAhead(t, all, len(all))
		for _, behind := range []string{"x", " ", "\n", "\r", "\r\n", "\x00", "G", "GET ", "HTTP/1.1 200 OK\r\n\r\n", strings.Repeat("a", 100000)} {
			checkAhead(t, all+behind, len(all))
			checkAhead(t, all+behind+one, len(all))
		}
	}
	for _, s := range noRequests() {
		checkAhead(t, all+s, len(all))
	}
}

func TestAheadOfMany(t *testing.T) {
	all := strings.Repeat(text("a", "/")+text("host:80", "/metrics"), 5000)
	checkAhead(t, all, len(all))
	checkAhead(t, all+all[:50], len(all))
	checkAhead(t, all[:len(all)-1], len(all)-len(text("host:80", "/metrics")))
}

// What is read neither changes the bytes, nor hangs on them later.
func TestReadLeavesWhatIsHandedIn(t *testing.T) {
	as := text("host:80", "/path") + "more"
	b := []byte(as)
	one := b[: len(b)-len("more") : len(b)]
	host, path, e := request.Of(one)
	request.Ahead(one)
	request.Ahead(b)
	request.Of(b)
	if string(b) != as {
		t.Errorf("the bytes were changed: %q", b)
	}
	copy(b, bytes.Repeat([]byte("?"), len(b)))
	if host != "host:80" || path != "/path" || e != api.OK {
		t.Errorf("Of = %q, %q, %v", host, path, e)
	}
}

// P5.3

func TestReadAsItWasMade(t *testing.T) {
	for _, x := range pairs() {
		b := made(t, x[0], x[1])
		if host, path, e := request.Of(b); host != x[0] || path != x[1] || e != api.OK {
			t.Errorf("made of %.60q, %.60q, read as %.60q, %.60q, %v", x[0], x[1], host, path, e)
		}
	}
	lengths := []int{1, 2, 3, 50, 127, 128, 200, 254, 255}
	for _, h := range lengths {
		for _, p := range append(lengths, 256, 512, 1000, 1022, 1023, 1024) {
			host, path := strings.Repeat("a", h), strings.Repeat("/", p)
			b := made(t, host, path)
			if is, at, e := request.Of(b); is != host || at != path || e != api.OK {
				t.Errorf("a host of %d bytes, a path of %d: read as %.60q, %.60q, %v", h, p, is, at, e)
			}
			checkAhead(t, string(b)+string(b), 2*len(b))
		}
	}
}

func TestNoOtherOnes(t *testing.T) {
	hosts, paths := []string{"a", "aa", "A", "a:", "a.", "ab", "b"}, []string{"/", "//", "/a", "/aa", "/A", "/a/", "/b"}
	seen := make(map[string][2]string)
	for _, host := range hosts {
		for _, path := range paths {
			b := string(made(t, host, path))
			if other, is := seen[b]; is {
				t.Errorf("%q, %q and %q have one request", host, path, other)
			}
			seen[b] = [2]string{host, path}
		}
	}
}

func TestBeginningsAreNone(t *testing.T) {
	for _, x := range pairs() {
		one := text(x[0], x[1])
		for size := range len(one) {
			checkNone(t, one[:size])
			checkAhead(t, one[:size], 0)
			checkAhead(t, one+one[:size], len(one))
			checkAhead(t, one+one+one[:size], 2*len(one))
		}
	}
}
