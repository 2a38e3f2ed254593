package reply_test

import (
	"bytes"
	"fmt"
	"math"
	"slices"
	"strconv"
	"strings"
	"testing"

	"odometer/api"
	"odometer/reply"
)

const (
	okLine  = "HTTP/1.1 200 OK/"
	oldLine = "HTTP/1.0 200 OK/"
	inParts = "Transfer-Encoding: chunked/"
	closing = "Connection: close/"
)

// lines are bytes, with 13 10 for each '/' but that of 'HTTP/'.
func lines(text string) string {
	return strings.NewReplacer("HTTP/", "HTTP/", "/", "\r\n").Replace(text)
}

// length is a field that tells a length.
func length(size int) string { return "Content-Length: " + strconv.Itoa(size) + "/" }

// ofLength is the head that a status 200 and a length tell.
func ofLength(size int) api.Head { return api.Head{Status: 200, Length: int64(size)} }

// The heads of other answers of status 200.
var (
	chunked = api.Head{Status: 200, Length: -1, Chunked: true}
	tillEnd = api.Head{Status: 200, Length: -1, Close: true}
)

// told is what a reader tells.
type told struct {
	over   bool
	wrong  api.Errno
	status int
	body   string
	reuse  bool
	answer api.Errno // what Reply answers beside
	head   api.Head
	whole  bool
	rest   int
}

func (w told) String() string {
	return fmt.Sprintf("over %v, %v; reply %d, %.200q, again %v, %v; head %v, %v; rest %d", w.over, w.wrong, w.status, w.body, w.reuse, w.answer, w.head, w.whole, w.rest)
}

// tell is what a reader tells.
func tell(r *reply.Reader) told {
	p, e := r.Reply()
	h, whole := r.Head()
	return told{over: r.Over(), wrong: r.Wrong(), status: p.Status, body: string(p.Body), reuse: p.Reuse, answer: e, head: h, whole: whole, rest: r.Rest()}
}

// answered is what a reader tells of a whole answer.
func answered(h api.Head, body string, reuse bool, rest int) told {
	return told{over: true, status: 200, body: body, reuse: reuse, head: h, whole: true, rest: rest}
}

// early is what a reader tells ahead of the head's end.
func early() told { return told{answer: api.ErrState} }

// within is what a reader tells ahead of the body's end.
func within(h api.Head) told { return told{answer: api.ErrState, head: h, whole: true} }

// noHead is what a reader tells of an error of the head.
func noHead(e api.Errno) told { return told{over: true, wrong: e, answer: e} }

// noBody is what a reader tells of an error behind a head that is whole.
func noBody(e api.Errno, h api.Head) told {
	return told{over: true, wrong: e, answer: e, head: h, whole: true}
}

// each are a text's bytes.
func each(text string) []string {
	var list []string
	for i := range len(text) {
		list = append(list, text[i:i+1])
	}
	return list
}

// cuts are ways to cut bytes: not at all, everywhere, with parts of no bytes, and at each place (of many bytes at some, and at those near their end).
func cuts(text string) [][]string {
	ways := [][]string{{text}, each(text), {"", text, ""}}
	for i := 1; i < len(text); i++ {
		if len(text) > 300 && i%(len(text)/10) > 0 && i < len(text)-8 {
			continue
		}
		ways = append(ways, []string{text[:i], text[i:]}, []string{text[:i], "", text[i : i+1], text[i+1:]})
	}
	return ways
}

// pushed is a reader to which parts came.
func pushed(most int, parts ...string) *reply.Reader {
	r := reply.New(most)
	for _, part := range parts {
		r.Push([]byte(part))
	}
	return r
}

// check holds a reader to what it tells of bytes, however they are cut, if it is asked now and then, or not.
func check(t *testing.T, most int, text string, want told) {
	t.Helper()
	for _, parts := range cuts(text) {
		r := pushed(most, parts...)
		for range 2 {
			if is := tell(r); is != want {
				t.Errorf("of %d at most, of %.300q (%d bytes, in %d parts): %v; want %v", most, text, len(text), len(parts), is, want)
				return
			}
		}
	}
}

// checkEnded holds a reader to what it tells of bytes, however they are cut, behind which the connection ended, once or twice.
func checkEnded(t *testing.T, most int, text string, want told) {
	t.Helper()
	for _, parts := range cuts(text) {
		r := pushed(most, parts...)
		for range 2 {
			r.End()
			if is := tell(r); is != want {
				t.Errorf("of %d at most, of %.300q (in %d parts) and the end: %v; want %v", most, text, len(parts), is, want)
				return
			}
		}
		checkOver(t, r, want)
	}
}

// checkOver holds a reader that is over to it that what comes is counted (where nothing is wrong), and lets nothing be used again, and nothing else.
func checkOver(t *testing.T, r *reply.Reader, want told) {
	t.Helper()
	for _, more := range []string{"", "0", "", lines("/"), lines(okLine + length(1) + "/z"), "\x00\xff"} {
		r.Push([]byte(more))
		if want.wrong == api.OK {
			want.rest += len(more)
			want.reuse = want.reuse && more == ""
		}
		if is := tell(r); is != want {
			t.Errorf("over, and behind it %q: %v; want %v", more, is, want)
		}
	}
	r.End()
	if is := tell(r); is != want {
		t.Errorf("over, and behind it the end: %v; want %v", is, want)
	}
}

// checkWrong holds a reader to an error that the last byte of a text shows, and none of those ahead; what comes behind is not counted.
func checkWrong(t *testing.T, most int, text string, ahead, want told) {
	t.Helper()
	check(t, most, text[:len(text)-1], ahead)
	for _, behind := range []string{"", "x", "\n", lines("//"), lines(okLine + length(0) + "/")} {
		check(t, most, text+behind, want)
	}
	checkEnded(t, most, text, want)
	checkOver(t, pushed(most, text), want)
}

// P8.1, P8.2: no reader

func TestNone(t *testing.T) {
	var r *reply.Reader
	want := told{wrong: api.ErrNil, answer: api.ErrNil}
	for range 2 {
		if is := tell(r); is != want || r.Copy() != nil {
			t.Errorf("%v, a copy %v", is, r.Copy())
		}
		r.Push([]byte(lines(okLine + length(0) + "/")))
		r.Push(nil)
		r.End()
	}
}

func TestZero(t *testing.T) {
	for _, text := range []string{"", "HTTP", lines(okLine), lines(okLine + length(0) + "/"), lines(okLine + length(1) + "/"), lines(okLine + "/x"), lines(okLine + inParts + "/0//x")} {
		zero, none := new(reply.Reader), reply.New(0)
		zero.Push([]byte(text))
		none.Push([]byte(text))
		if is, want := tell(zero), tell(none); is != want {
			t.Errorf("of %q: %v; want %v", text, is, want)
		}
	}
}

// P8.2: the chapter's examples

func TestExamples(t *testing.T) {
	check(t, 100, lines(okLine+"Content-Length: 2//ab"), answered(ofLength(2), "ab", true, 0))
	check(t, 100, lines("HTTP/1.1 404 No/ /"), noHead(api.ErrHeader))
	check(t, 100, lines("HTTP/1.1 404 No//"), noBody(api.ErrCode, api.Head{Status: 404, Length: -1, Close: true}))
}

// P8.2: whole answers, and what comes behind

func TestByLength(t *testing.T) {
	text := "abcdefghij"
	for size := range len(text) + 1 {
		ahead := lines(okLine + length(size) + "/")
		for _, most := range []int{size, size + 1, 100, api.MaxBody, math.MaxInt} {
			for n := range size {
				check(t, most, ahead+text[:n], within(ofLength(size)))
				checkEnded(t, most, ahead+text[:n], noBody(api.ErrEnd, ofLength(size)))
			}
			check(t, most, ahead+text[:size], answered(ofLength(size), text[:size], true, 0))
			checkEnded(t, most, ahead+text[:size], answered(ofLength(size), text[:size], false, 0))
			for n := size + 1; n <= len(text); n++ {
				check(t, most, ahead+text[:n], answered(ofLength(size), text[:size], false, n-size))
				checkEnded(t, most, ahead+text[:n], answered(ofLength(size), text[:size], false, n-size))
			}
			checkOver(t, pushed(most, ahead+text[:size]), answered(ofLength(size), text[:size], true, 0))
		}
	}
}

func TestInChunks(t *testing.T) {
	for text, body := range map[string]string{
		"0//": "", "1/a/0//": "a", "2;x=1/ab/0//": "ab", "3/abc/2/de/0/t: u//": "abcde", "4////0//": "\r\n\r\n", "00a \t/0123456789/0//": "0123456789",
	} {
		whole := lines(okLine + inParts + "/" + text)
		size := len(lines(okLine + inParts + "/"))
		for n := range whole {
			want, end := early(), noHead(api.ErrEnd)
			if n >= size {
				want, end = within(chunked), noBody(api.ErrEnd, chunked)
			}
			check(t, len(body), whole[:n], want)
			checkEnded(t, 100, whole[:n], end)
		}
		check(t, len(body), whole, answered(chunked, body, true, 0))
		check(t, 100, whole, answered(chunked, body, true, 0))
		checkEnded(t, len(body), whole, answered(chunked, body, false, 0))
		check(t, len(body), whole+"more", answered(chunked, body, false, 4))
		checkEnded(t, len(body), whole+"\n", answered(chunked, body, false, 1))
		checkOver(t, pushed(len(body), whole), answered(chunked, body, true, 0))
	}
}

func TestTillTheEnd(t *testing.T) {
	for _, fields := range []string{"", "A: b/", "Connection: keep-alive/", closing} {
		for _, first := range []string{okLine, oldLine} {
			ahead := lines(first + fields + "/")
			for _, body := range []string{"", "a", "abc", lines("0//"), lines(okLine + length(0) + "/"), "\x00\n"} {
				for _, most := range []int{len(body), len(body) + 1, 1000} {
					check(t, most, ahead+body, within(tillEnd))
					checkEnded(t, most, ahead+body, answered(tillEnd, body, false, 0))
				}
			}
		}
	}
}

// Each byte may be a body's; what it looks like tells nothing.
func TestAllBytes(t *testing.T) {
	body := ""
	for c := range 256 {
		body += string([]byte{byte(c)})
	}
	body += lines("//" + okLine + length(0) + "/")
	check(t, len(body), lines(okLine+length(len(body))+"/")+body, answered(ofLength(len(body)), body, true, 0))
	check(t, len(body), lines(okLine+inParts+"/"+strconv.FormatInt(int64(len(body)), 16)+"/")+body+lines("/0//"), answered(chunked, body, true, 0))
	checkEnded(t, len(body), lines(okLine+"/")+body, answered(tillEnd, body, false, 0))
}

// P8.1: how great a body may be

func TestMost(t *testing.T) {
	body := "abcdef"
	for size := 1; size <= len(body); size++ {
		for _, most := range []int{size - 1, 0, -1, math.MinInt} {
			room := max(most, 0)
			checkWrong(t, most, lines(okLine+length(size)+"/"), early(), noBody(api.ErrLarge, ofLength(size)))
			checkWrong(t, most, lines(okLine+inParts+"/"+strconv.Itoa(size)+"/"), within(chunked), noBody(api.ErrLarge, chunked))
			checkWrong(t, most, lines(okLine+"/")+body[:room+1], within(tillEnd), noBody(api.ErrLarge, tillEnd))
		}
		for _, most := range []int{size, size + 1} {
			check(t, most, lines(okLine+length(size)+"/")+body[:size], answered(ofLength(size), body[:size], true, 0))
			check(t, most, lines(okLine+inParts+"/"+strconv.Itoa(size)+"/")+body[:size]+lines("/0//"), answered(chunked, body[:size], true, 0))
			checkEnded(t, most, lines(okLine+"/")+body[:size], answered(tillEnd, body[:size], false, 0))
		}
	}
	for _, most := range []int{0, -1, math.MinInt} {
		check(t, most, lines(okLine+length(0)+"/"), answered(ofLength(0), "", true, 0))
		check(t, most, lines(okLine+inParts+"/0//"), answered(chunked, "", true, 0))
		checkEnded(t, most, lines(okLine+"/"), answered(tillEnd, "", false, 0))
	}
	checkWrong(t, 4, lines(okLine+inParts+"/3/abc/2/"), within(chunked), noBody(api.ErrLarge, chunked))
	check(t, 5, lines(okLine+inParts+"/3/abc/2/de/0//"), answered(chunked, "abcde", true, 0))
}

// P0.4
func TestGreatBodies(t *testing.T) {
	body := strings.Repeat("0123456789abcdef", api.MaxBody/16)
	for _, part := range []int{math.MaxInt, 65536, 4099, 1} {
		r := reply.New(api.MaxBody)
		for b := range slices.Chunk([]byte(lines(okLine+length(len(body))+"/")+body+"more"), min(part, 2*len(body))) {
			r.Push(b)
		}
		if is := tell(r); is != answered(ofLength(len(body)), body, false, 4) {
			t.Errorf("in parts of %d: %v", part, is)
		}
	}
	check(t, api.MaxBody-1, lines(okLine+length(len(body))+"/"), noBody(api.ErrLarge, ofLength(len(body))))
	checkEnded(t, math.MaxInt, lines(okLine+"Content-Length: 999999999999999//")+"abc", noBody(api.ErrEnd, ofLength(999999999999999)))
}

// P8.2: what is wrong

func TestHeadsThatAreWrong(t *testing.T) {
	for text, e := range map[string]api.Errno{
		"/": api.ErrStatus, "HTTP/2 200 OK/": api.ErrStatus, "HTTP/1.1 2000 OK/": api.ErrStatus, "HTTP/1.1 200/": api.ErrStatus, "HTTP/1.1 200 O\x00/": api.ErrStatus, "\n/": api.ErrStatus,
		okLine + "bad/": api.ErrHeader, okLine + " a: b/": api.ErrHeader, okLine + "a: b/\n/": api.ErrHeader, "HTTP/1.1 404 No/ /": api.ErrHeader,
		okLine + strings.Repeat("a:/", 65): api.ErrHeader,
		okLine + "Content-Length: x//":     api.ErrLength, okLine + length(1) + length(2) + "/": api.ErrLength, okLine + inParts + length(1) + "/": api.ErrLength,
		okLine + "Transfer-Encoding: gzip//": api.ErrChunk, oldLine + inParts + "/": api.ErrChunk,
		"HTTP/1.1 404 No/Content-Length: x//": api.ErrLength, "HTTP/1.1 500 No/Transfer-Encoding: gzip//": api.ErrChunk, "HTTP/1.0 301 No/" + inParts + "/": api.ErrChunk,
	} {
		checkWrong(t, 100, lines(text), early(), noHead(e))
		checkWrong(t, 0, lines(text), early(), noHead(e))
	}
}

// headOf is a head of so many bytes, which tells a length.
func headOf(size, length int) string {
	ahead := lines(okLine + "Content-Length: " + strconv.Itoa(length) + "/a: ")
	return ahead + strings.Repeat("b", size-len(ahead)-4) + "\r\n\r\n"
}

func TestGreatHeads(t *testing.T) {
	for _, size := range []int{200, 4096, 8190, 8191, 8192} {
		check(t, 10, headOf(size, 3)+"abc", answered(ofLength(3), "abc", true, 0))
		check(t, 10, headOf(size, 3)+"abcd", answered(ofLength(3), "abc", false, 1))
		check(t, 10, headOf(size, 3)[:size-1], early())
		checkEnded(t, 10, headOf(size, 3)[:size-1], noHead(api.ErrEnd))
		checkWrong(t, 2, headOf(size, 3), early(), noBody(api.ErrLarge, ofLength(3)))
	}
	for _, size := range []int{8193, 8194, 8195, 9000, 20000} {
		checkWrong(t, 10, headOf(size, 3)[:8192], early(), noHead(api.ErrLarge))
		check(t, 10, headOf(size, 3)+"abc", noHead(api.ErrLarge))
	}
	for _, one := range []string{"x", "\n", "\r", "\x00"} {
		checkWrong(t, 10, strings.Repeat(one, 8192), early(), noHead(api.ErrLarge))
	}
	checkWrong(t, 10, strings.Repeat("x", 8190)+"\r\n", early(), noHead(api.ErrStatus))
	checkWrong(t, 10, lines(okLine)+strings.Repeat("x", 8192-len(lines(okLine))-2)+"\r\n", early(), noHead(api.ErrHeader))
	for _, count := range []int{63, 64} {
		check(t, 10, lines(okLine+length(1)+strings.Repeat("a:/", count-1)+"/x"), answered(ofLength(1), "x", true, 0))
	}
}

func TestOtherStatuses(t *testing.T) {
	for status := range 1000 {
		if status == 200 {
			continue
		}
		digits := strconv.Itoa(status + 1000)[1:]
		h := api.Head{Status: status, Length: 3}
		text := lines("HTTP/1.1 " + digits + " No/" + length(3) + "/")
		for _, parts := range [][]string{{text}, {text + "abc"}, {text, "ab", "cd"}, each(text + "abcd")} {
			if is := tell(pushed(100, parts...)); is != noBody(api.ErrCode, h) {
				t.Errorf("%s: %v", digits, is)
			}
		}
		if is := tell(pushed(100, text[:len(text)-1])); is != early() {
			t.Errorf("%s, a byte ahead of the head's end: %v", digits, is)
		}
	}
	for _, line := range []string{"HTTP/1.1 404 No/", "HTTP/1.1 000 /", "HTTP/1.1 100 Continue/", "HTTP/1.1 201 Created/", "HTTP/1.1 204 None/", "HTTP/1.1 199 x/", "HTTP/1.1 304 x/", "HTTP/1.1 999 x/"} {
		status, _ := strconv.Atoi(line[9:12])
		for fields, h := range map[string]api.Head{
			"": {Length: -1, Close: true}, closing: {Length: -1, Close: true}, length(0): {}, length(101): {Length: 101}, inParts: {Length: -1, Chunked: true}, length(5) + closing: {Length: 5, Close: true},
		} {
			h.Status = status
			checkWrong(t, 100, lines(line+fields+"/"), early(), noBody(api.ErrCode, h))
			checkEnded(t, 100, lines(line + fields + "/")[:len(lines(line+fields))+1], noHead(api.ErrEnd))
		}
	}
}

func TestBodiesThatAreWrong(t *testing.T) {
	for _, text := range []string{"g/", "3/abcx", "3/abc\rx", "3/abc/-/", "0/bad/", strings.Repeat("0", 256), "000000001/", "\n", "3/abc/0/" + strings.Repeat("a:/", 2048) + "b"} {
		whole := lines(okLine + inParts + "/" + text)
		checkWrong(t, 100, whole, within(chunked), noBody(api.ErrChunk, chunked))
	}
}

// P8.2: the connection that ends

func TestEnds(t *testing.T) {
	whole := lines(okLine + length(3) + "/abc")
	size := len(whole) - 3
	for n := range len(whole) {
		want := noHead(api.ErrEnd)
		if n >= size {
			want = noBody(api.ErrEnd, ofLength(3))
		}
		checkEnded(t, 3, whole[:n], want)
	}
	checkEnded(t, 3, whole, answered(ofLength(3), "abc", false, 0))
	checkEnded(t, 3, whole+"de", answered(ofLength(3), "abc", false, 2))
	checkEnded(t, 3, "HTTP/1.1 404 No", noHead(api.ErrEnd))
	checkEnded(t, 3, "bad", noHead(api.ErrEnd))
}

// What is wrong ahead of the end stays.
func TestEndsBehindErrors(t *testing.T) {
	for text, want := range map[string]told{
		"bad/": noHead(api.ErrStatus), okLine + "bad/": noHead(api.ErrHeader), okLine + length(4) + "/": noBody(api.ErrLarge, ofLength(4)), okLine + inParts + "/x/": noBody(api.ErrChunk, chunked), "HTTP/1.1 404 No/" + length(9) + "/": noBody(api.ErrCode, api.Head{Status: 404, Length: 9}),
	} {
		checkEnded(t, 3, lines(text), want)
	}
}

// P8.2: may the connection be used again? Each of the four parts alone says no.
func TestReuse(t *testing.T) {
	for body, fields := range map[string]string{"abc": length(3), "3/abc/0//": inParts, "": length(0), "0//": inParts} {
		ahead := lines(okLine + fields + "/")
		behind := lines(body)
		r := pushed(10, ahead, behind)
		if p, e := r.Reply(); e != api.OK || !p.Reuse {
			t.Errorf("of %q: %v, %v", ahead+behind, p, e)
		}
		if behind != "" {
			r = pushed(10, ahead, behind[:len(behind)-1]) // not done
			if p, e := r.Reply(); e != api.ErrState || p.Reuse {
				t.Errorf("a byte ahead of its end: %v, %v", p, e)
			}
		}
		for _, text := range []string{okLine + fields + closing, okLine + closing + fields, okLine + fields + "connection: x ,\tCLOSE/"} {
			r = pushed(10, lines(text+"/"), behind) // Close
			if p, e := r.Reply(); e != api.OK || p.Reuse || r.Rest() != 0 {
				t.Errorf("of %q: %v, %v", text, p, e)
			}
		}
		r = pushed(10, ahead, behind, "x") // more
		if p, e := r.Reply(); e != api.OK || p.Reuse || r.Rest() != 1 {
			t.Errorf("of a byte more: %v, %v", p, e)
		}
		r = pushed(10, ahead, behind) // the end
		r.End()
		if p, e := r.Reply(); e != api.OK || p.Reuse || r.Rest() != 0 {
			t.Errorf("of the end: %v, %v", p, e)
		}
	}
	for fields, again := range map[string]bool{length(1): false, length(1) + "Connection: keep-alive/": true, length(1) + "Connection: Keep-Alive, close/": false} {
		if p, e := pushed(10, lines(oldLine+fields+"/a")).Reply(); e != api.OK || p.Reuse != again {
			t.Errorf("of 1.0, %q: %v, %v", fields, p, e)
		}
	}
}

// P8.2: what is answered, and handed in, is the caller's own

func TestTheCallersOwn(t *testing.T) {
	for _, text := range []string{okLine + length(9) + "/abcdefghi", okLine + inParts + "/9/abcdefghi/0//", okLine + "/abcdefghi"} {
		r := reply.New(100)
		for part := range slices.Chunk([]byte(lines(text)), 7) {
			b := append(make([]byte, 0, 64), part...)
			r.Push(b)
			if !bytes.Equal(b, part) || !bytes.Equal(b[len(b):cap(b)], make([]byte, cap(b)-len(b))) {
				t.Errorf("Push made %q of %q", b[:cap(b)], part)
			}
			clear(b[:cap(b)])
		}
		if !r.Over() { // its body goes on till the end
			r.End()
		}
		for range 3 {
			p, e := r.Reply()
			if e != api.OK || string(p.Body) != "abcdefghi" {
				t.Errorf("of %q: %q, %v", text, p.Body, e)
			}
			clear(p.Body)
			_ = append(p.Body, "zzz"...)
			if len(p.Body) > 3 {
				_ = append(p.Body[:3], "yyy"...)
			}
		}
	}
}

// A Reply that was answered stays as it is, whatever comes.
func TestRepliesThatStay(t *testing.T) {
	r := pushed(10, lines(okLine+length(3)+"/abc"))
	first, _ := r.Reply()
	r.Push([]byte("def"))
	r.End()
	if string(first.Body) != "abc" || !first.Reuse || first.Status != 200 {
		t.Error(first)
	}
}
