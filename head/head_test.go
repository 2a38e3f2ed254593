package head_test

import (
	"slices"
	"strconv"
	"strings"
	"testing"

	"odometer/api"
	"odometer/head"
)

const (
	okLine  = "HTTP/1.1 200 OK\r\n"
	oldLine = "HTTP/1.0 200 OK\r\n"
)

// told is what a head tells, but for the length: none, not in chunks, closed.
var told = api.Head{Status: 200, Length: -1, Close: true}

// checkWhole holds Parse to a whole head, whatever stands behind it, and to each of its beginnings, which is none yet.
func checkWhole(t *testing.T, text string, want api.Head) {
	t.Helper()
	for _, behind := range []string{"", "more", "\r\n", "\n", "\x00", "HTTP/2\r\n", "a:\r\n", text} {
		if h, n, e := head.Parse([]byte(text + behind)); h != want || n != len(text) || e != api.OK {
			t.Errorf("Parse(%.300q, behind it %.30q) = %v, %d, %v, want %v, %d", text, behind, h, n, e, want, len(text))
		}
	}
	for _, size := range []int{len(text) - 1, len(text) - 2, len(text) - 3, len(text) / 2, 1, 0} {
		checkNothing(t, text[:size])
	}
}

// checkNothing holds Parse and Fields to bytes that show nothing yet.
func checkNothing(t *testing.T, text string) {
	t.Helper()
	if h, n, e := head.Parse([]byte(text)); h != (api.Head{}) || n != 0 || e != api.OK {
		t.Errorf("Parse(%.300q), of %d bytes, = %v, %d, %v, want nothing", text, len(text), h, n, e)
	}
	if l, e := head.Fields([]byte(text)); len(l) != 0 || e != api.ErrEnd {
		t.Errorf("Fields(%.300q), of %d bytes, = %q, %v, want %v", text, len(text), l, e, api.ErrEnd)
	}
}

// checkWrong holds Parse to an error, whatever stands behind the bytes.
func checkWrong(t *testing.T, text string, want api.Errno) {
	t.Helper()
	for _, behind := range []string{"", "more", "\r\n", "\r\n\r\n", "HTTP/2\r\n", "bad\r\n", okLine + "\r\n"} {
		if h, n, e := head.Parse([]byte(text + behind)); h != (api.Head{}) || n != 0 || e != want {
			t.Errorf("Parse(%.300q, behind it %.30q) = %v, %d, %v, want %v", text, behind, h, n, e, want)
		}
	}
}

// checkLines holds Parse and Fields to an error that is a line's, or that of too many bytes.
func checkLines(t *testing.T, text string, want api.Errno) {
	t.Helper()
	checkWrong(t, text, want)
	if l, e := head.Fields([]byte(text)); len(l) != 0 || e != want {
		t.Errorf("Fields(%.300q) = %q, %v, want %v", text, l, e, want)
	}
}

// checkFields holds Fields to names and values, one behind the other.
func checkFields(t *testing.T, text string, want ...string) {
	t.Helper()
	var list []string
	l, e := head.Fields([]byte(text))
	for _, f := range l {
		list = append(list, f.Name, f.Value)
	}
	if !slices.Equal(list, want) || e != api.OK {
		t.Errorf("Fields(%.300q) = %.300q, %v, want %.300q", text, list, e, want)
	}
}

// P6.1: the status line

func TestStatusLines(t *testing.T) {
	for _, line := range []string{
		"HTTP/1.1 200 OK", "HTTP/1.0 200 OK", "HTTP/1.1 200 ", "HTTP/1.0 200 ", "HTTP/1.1 200  ", "HTTP/1.1 200 \t", "HTTP/1.1 200 200 200",
		"HTTP/1.1 200 Not: found, (at all)", "HTTP/1.1 200 \xff\x80é", "HTTP/1.1 200 " + strings.Repeat("a", 8000),
	} {
		checkWhole(t, line+"\r\n\r\n", told)
	}
	for _, line := range []string{
		"", " ", "HTTP", "HTTP/1.1", "HTTP/1.1 ", "HTTP/1.1 200", "HTTP/1.1  200 OK", "HTTP/1.1 200\tOK", "HTTP/1.1\t200 OK", "HTTP/1.1 200OK", "HTTP/1.1200 OK", "HTTP/1.1  ",
		" HTTP/1.1 200 OK", "\r HTTP/1.1 200 OK", "\nHTTP/1.1 200 OK", "http/1.1 200 OK", "HTTP/2 200 OK", "HTTP/1.2 200 OK", "HTTP/0.9 200 OK", "HTTP/1. 200 OK", "HTTP/1 200 OK", "HTTP/1.10 200 OK", "HTTP/01.1 200 OK", "HTTP/1.1/ 200 OK", "HTTPS/1.1 200 OK", "HTTP 1.1 200 OK", "xHTTP/1.1 200 OK",
		"HTTP/1.1 20 OK", "HTTP/1.1 2000 OK", "HTTP/1.1 2 OK", "HTTP/1.1 +20 OK", "HTTP/1.1 -20 OK", "HTTP/1.1 2x0 OK", "HTTP/1.1 x00 OK", "HTTP/1.1 20/ OK", "HTTP/1.1 20: OK", "HTTP/1.1 2.0 OK", "HTTP/1.1 ２00 OK", "HTTP/1.1 ok OK",
		"HTTP/1.1 200 O\x01", "HTTP/1.1 200 \x7f", "HTTP/1.1 200 a\rb", "HTTP/1.1 200 a\nb", "HTTP/1.1 200 OK\r", "HTTP/1.1 200 OK\n", "HTTP/1.1 200 \x00",
		"GET / HTTP/1.1", "a: b", "HTTP/1.1: 200",
	} {
		checkLines(t, line+"\r\n", api.ErrStatus)
		checkLines(t, line+"\r\nbad\r\n", api.ErrStatus)
		checkLines(t, line+"\r\nContent-Length: x\r\n\r\n", api.ErrStatus)
		checkNothing(t, line)
		checkNothing(t, strings.TrimSuffix(line, "\r")+"\r")
	}
}

func TestEachStatus(t *testing.T) {
	for status := range 1000 {
		digits := strconv.Itoa(1000 + status)[1:]
		checkWhole(t, "HTTP/1.1 "+digits+" x\r\n\r\n", api.Head{Status: status, Length: -1, Close: true})
		checkWhole(t, "HTTP/1.0 "+digits+" \r\nContent-Length: 7\r\n\r\n", api.Head{Status: status, Length: 7, Close: true})
	}
}

func TestEachByteOfAVersionAndACode(t *testing.T) {
	right := "HTTP/1.1 200 "
	for i := range right {
		for c := range 256 {
			line := right[:i] + string([]byte{byte(c)}) + right[i+1:]
			is, status := line == right || line == "HTTP/1.0 200 ", 200
			if 9 <= i && i < 12 && '0' <= c && c <= '9' {
				is = true
				status, _ = strconv.Atoi(line[9:12])
			}
			if !is {
				checkLines(t, line+"\r\n\r\n", api.ErrStatus)
				continue
			}
			checkWhole(t, line+"\r\n\r\n", api.Head{Status: status, Length: -1, Close: true})
		}
	}
}

// P6.1, P6.2: lines are looked at when they are ended

func TestLinesThatAreNotEnded(t *testing.T) {
	for _, text := range []string{
		"", "\r", "\n", "H", "x", "HTTP/2 200", "HTTP/2 200\r", "HTTP/2 200\n", "\x00", "\n\n", "\r\r", "\n\r",
		okLine, okLine + "\r", okLine + "\n", okLine + "bad", okLine + "bad\r", okLine + "bad\n", okLine + "\x00", okLine + " : ", okLine + "a: b", okLine + "a: b\r", okLine + "a: b\n\n",
		okLine + "a: b\r\n", okLine + "a: b\r\n\r", okLine + "a: b\r\n\n", okLine + "Content-Length: x\r\n", okLine + "Content-Length: 1\r\nContent-Length: 2\r\nTransfer-Encoding: x\r\n",
		strings.Repeat("x", 8191), strings.Repeat("\n", 8191), okLine + strings.Repeat(":", 8191-len(okLine)),
	} {
		checkNothing(t, text)
	}
	if h, n, e := head.Parse(nil); h != (api.Head{}) || n != 0 || e != api.OK {
		t.Errorf("Parse(nil) = %v, %d, %v", h, n, e)
	}
	if l, e := head.Fields(nil); len(l) != 0 || e != api.ErrEnd {
		t.Errorf("Fields(nil) = %v, %v", l, e)
	}
}

func TestOtherEndsOfLines(t *testing.T) {
	whole := okLine + "a: b\r\n\r\n"
	checkNothing(t, strings.ReplaceAll(whole, "\r\n", "\n"))
	checkNothing(t, strings.ReplaceAll(whole, "\r\n", "\r"))
	checkNothing(t, strings.ReplaceAll(okLine+"a: b\r\n", "\r\n", "\n\r"))
	checkLines(t, strings.ReplaceAll(whole, "\r\n", "\n\r"), api.ErrStatus) // an end stands between two of these
	checkLines(t, strings.ReplaceAll(whole, "\r\n", "\r\r\n"), api.ErrStatus)
	checkLines(t, strings.ReplaceAll(whole, "\r\n", "\n\r\n"), api.ErrStatus)
	checkLines(t, okLine+"a: b\nc: d\r\n", api.ErrHeader)
	checkLines(t, okLine+"a: b\rc: d\r\n", api.ErrHeader)
	checkLines(t, okLine+"\n\r\n", api.ErrHeader)
	checkLines(t, okLine+"\r\r\n", api.ErrHeader)
	checkLines(t, "\r\n"+whole, api.ErrStatus)
}

// P6.1, P6.2: fields

func TestLinesThatAreNoFields(t *testing.T) {
	for _, line := range []string{
		"bad", " ", "\t", ":", ": b", " a: b", "\ta: b", "a : b", "a\t: b", "a b: c", "a", "a=b", "a;b", "é: b", "\xff: b", "a\x00: b", "(a): b", "\"a\": b", "a/b: c", "a@b: c", "a[0]: b", "a\\: b", "{a}: b", "a,b: c", "a<b>: c", "a?: b",
		"a: \x00", "a: b\x7f", "a:\x01", "a:b\x0b", "a:\x1f", "a: b\r", "a: b\n", "a: b\nc", " continued",
	} {
		for _, text := range []string{okLine, oldLine, okLine + "a: b\r\n", okLine + "Content-Length: x\r\nTransfer-Encoding: y\r\n"} {
			checkLines(t, text+line+"\r\n", api.ErrHeader)
			checkLines(t, text+line+"\r\nc: d\r\n", api.ErrHeader)
		}
	}
}

func TestFields(t *testing.T) {
	for _, first := range []string{okLine, oldLine, "HTTP/1.1 404 \r\n"} {
		checkFields(t, first+"\r\n")
		checkFields(t, first+"\r\nmore\r\n\r\n")
		checkFields(t, first+"A-B:  c d\t\r\ne:\r\n\r\n", "a-b", "c d", "e", "")
		checkFields(t, first+"a:b\r\nc: d\r\n\r\ne: f\r\n\r\n", "a", "b", "c", "d")
		checkFields(t, first+"B: 2\r\na: 1\r\nb: 1\r\nA: 1\r\nB: 2\r\n\r\n", "b", "2", "a", "1", "b", "1", "a", "1", "b", "2")
	}
	for text, want := range map[string]string{
		"": "", " ": "", "\t": "", " \t \t": "", "x": "x", " x": "x", "x ": "x", "\tx\t": "x", "\t \tx\t \t": "x", "x y": "x y", " x \t y ": "x \t y", ":": ":", " : : ": ": :", "a:b": "a:b", "AbC": "AbC",
		"\xff": "\xff", " \x80 ": "\x80", "\u00a0x\u00a0": "\u00a0x\u00a0", "\u2003": "\u2003", "\xa0": "\xa0", "\x85": "\x85", ",,": ",,", "\"a\" ": "\"a\"", "~!": "~!",
	} {
		checkFields(t, okLine+"n:"+text+"\r\n\r\n", "n", want)
	}
	checkFields(t, okLine+"AZaz09!#$%&'*+-.^_`|~: x\r\n\r\n", "azaz09!#$%&'*+-.^_`|~", "x")
}

func TestEachByteOfAField(t *testing.T) {
	for i := range 256 {
		c := string([]byte{byte(i)})
		value, name := okLine+"a: b"+c+"b\r\n\r\n", okLine+"a"+c+"a: b\r\n\r\n"
		status := "HTTP/1.1 200 O" + c + "K\r\n\r\n"
		if strings.Contains(textBytes(), c) {
			checkWhole(t, value, told)
			checkFields(t, value, "a", "b"+c+"b")
			checkWhole(t, status, told)
			checkFields(t, status)
		} else {
			checkLines(t, value, api.ErrHeader)
			checkLines(t, status, api.ErrStatus)
		}
		switch {
		case strings.Contains(nameBytes, c):
			checkWhole(t, name, told)
			low := c
			if 'A' <= i && i <= 'Z' {
				low = string([]byte{byte(i + 32)})
			}
			checkFields(t, name, "a"+low+"a", "b")
		case c == ":":
			checkFields(t, name, "a", "a: b")
		default:
			checkLines(t, name, api.ErrHeader)
		}
	}
}

// Fields does not tell the errors of what fields say together.
func TestFieldsOfHeadsThatParseRefuses(t *testing.T) {
	checkFields(t, okLine+"Content-Length: x\r\nContent-Length: 2\r\n\r\n", "content-length", "x", "content-length", "2")
	checkFields(t, okLine+"Transfer-Encoding: gzip\r\n\r\n", "transfer-encoding", "gzip")
	checkFields(t, oldLine+"Transfer-Encoding: chunked\r\nContent-Length: 1\r\n\r\n", "transfer-encoding", "chunked", "content-length", "1")
}

// P6.1, P6.2: limits

func TestCountsOfFields(t *testing.T) {
	for count := range 130 {
		text, want := okLine, []string{}
		for i := range min(count, 64) {
			text += "f" + strconv.Itoa(i) + ":" + strconv.Itoa(-i) + "\r\n"
			want = append(want, "f"+strconv.Itoa(i), strconv.Itoa(-i))
		}
		checkNothing(t, text)
		if count <= 64 {
			checkWhole(t, text+"\r\n", told)
			checkFields(t, text+"\r\n", want...)
			continue
		}
		checkNothing(t, text+"a:")
		text += strings.Repeat("a:\r\n", count-64)
		checkLines(t, text, api.ErrHeader)
		checkLines(t, text+"\r\n", api.ErrHeader)
	}
	many := strings.Repeat("a:\r\n", 64)
	checkLines(t, okLine+many+"bad\r\n", api.ErrHeader)
	checkLines(t, okLine+many+many+strings.Repeat("x", 10000), api.ErrHeader)
	checkWhole(t, okLine+strings.Repeat("Content-Length: 1\r\n", 64)+"\r\n", api.Head{Status: 200, Length: 1})
}

// ofSize is a whole head of so many bytes.
func ofSize(size int) string {
	text := okLine + "Content-Length: 3\r\nx: "
	return text + strings.Repeat("v", size-len(text)-4) + "\r\n\r\n"
}

func TestSizesOfHeads(t *testing.T) {
	for size := 8000; size <= 8192; size++ {
		checkWhole(t, ofSize(size), api.Head{Status: 200, Length: 3})
	}
	for size := 8193; size < 8300; size++ {
		text := ofSize(size)
		checkLines(t, text, api.ErrLarge)
		checkLines(t, text[:8192], api.ErrLarge)
		checkNothing(t, text[:8191])
	}
	for _, size := range []int{8190, 8191, 8192, 8193, 8194, 16384, 1 << 20} {
		for _, one := range []string{"x", "\r", "\n", "\x00", " ", "\xff", ":"} {
			for _, text := range []string{"", okLine, okLine + "a: b\r\n"} {
				text += strings.Repeat(one, size-len(text))
				if size < 8192 {
					checkNothing(t, text)
				} else {
					checkLines(t, text, api.ErrLarge)
				}
			}
		}
	}
}

// The status line alone may have as many bytes as there are.
func TestSizesOfStatusLines(t *testing.T) {
	for _, size := range []int{8191, 8192} {
		checkWhole(t, "HTTP/1.1 200 "+strings.Repeat("s", size-17)+"\r\n\r\n", told)
	}
	checkLines(t, "HTTP/1.1 200 "+strings.Repeat("s", 8193-17)+"\r\n\r\n", api.ErrLarge)
}

// A line's error is told ahead of that of too many bytes, if its end is within those that are looked at.
func TestErrorsAtTheEdge(t *testing.T) {
	for _, wrong := range []api.Errno{api.ErrStatus, api.ErrHeader} {
		ahead := map[api.Errno]string{api.ErrStatus: "", api.ErrHeader: okLine}[wrong]
		for _, size := range []int{8189, 8190} {
			checkLines(t, ahead+strings.Repeat("x", size-len(ahead))+"\r\n", wrong)
			checkLines(t, ahead+strings.Repeat("x", size-len(ahead))+"\r\n"+strings.Repeat("y", 9000), wrong)
		}
		for _, size := range []int{8191, 8192, 8193, 9000} {
			checkLines(t, ahead+strings.Repeat("x", size-len(ahead))+"\r\n", api.ErrLarge)
		}
	}
	checkLines(t, okLine+strings.Repeat("a:\r\n", 65)+strings.Repeat("x", 8192), api.ErrHeader)
	checkLines(t, okLine+strings.Repeat("a:\r\n", 64)+strings.Repeat("x", 8192), api.ErrLarge)
	whole := ofSize(8192)
	checkWrong(t, strings.Replace(whole, "th: 3", "th: x", 1), api.ErrLength)
	checkLines(t, strings.Replace(whole, "th: 3", "th: xx", 1), api.ErrLarge)
}

// P6.4 and the rules: nothing is changed, and nothing is shared

func TestParseLeavesWhatIsHandedIn(t *testing.T) {
	as := okLine + "A-B: C d\r\nConnection: Close , X\r\nContent-Length: 3\r\n\r\nabc"
	b := []byte(as)
	head.Parse(b)
	l, e := head.Fields(b[:len(b)-3])
	if string(b) != as {
		t.Errorf("the bytes were changed: %q", b)
	}
	for i := range b {
		b[i] = '?'
	}
	if e != api.OK || len(l) != 3 || l[0] != (api.Field{Name: "a-b", Value: "C d"}) || l[1] != (api.Field{Name: "connection", Value: "Close , X"}) {
		t.Errorf("Fields = %q, %v", l, e)
	}
	l[0] = api.Field{}
	checkFields(t, as, "a-b", "C d", "connection", "Close , X", "content-length", "3")
}
