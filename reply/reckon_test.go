package reply_test

import (
	"strconv"
	"strings"
	"testing"

	"odometer/api"
	"odometer/body"
	"odometer/head"
	"odometer/reply"
)

// reckon is what a reader tells of bytes, by the chapter's words, of the layers that it calls; ended: the connection ended behind them.
func reckon(most int, text string, ended bool) told {
	h, size := api.Head{}, 0
	for n := 0; n <= len(text) && size == 0; n++ { // by the first beginning that tells anything
		var e api.Errno
		h, size, e = head.Parse([]byte(text[:n]))
		if e != api.OK {
			return noHead(e)
		}
	}
	switch {
	case size == 0 && ended:
		return noHead(api.ErrEnd)
	case size == 0:
		return early()
	case h.Status != 200:
		return noBody(api.ErrCode, h)
	}
	d := body.New(h, most)
	taken := 0
	for i := size; i < len(text); i++ {
		taken += d.Push([]byte(text[i : i+1]))
	}
	if ended {
		d.End()
	}
	switch {
	case d.Wrong() != api.OK:
		return noBody(d.Wrong(), h)
	case !d.Done():
		return within(h)
	}
	rest := len(text) - size - taken
	return answered(h, string(d.Body()), !h.Close && rest == 0 && !ended, rest)
}

// sequence gives numbers below others, the same in each run.
func sequence() func(below int) int {
	state := uint64(1)
	return func(below int) int {
		state = state*6364136223846793005 + 1442695040888963407
		return int(state >> 33 % uint64(below))
	}
}

// pushCut gives a reader a text in parts that are cut anywhere; now and then a copy goes on in its place.
func pushCut(r *reply.Reader, text string, next func(below int) int) *reply.Reader {
	for text != "" {
		n := 1 + next(1+next(min(len(text), 40)))
		r.Push([]byte(text[:n]))
		text = text[n:]
		if next(10) == 0 {
			c := r.Copy()
			r.Push([]byte("what comes to it is none of its copy's"))
			r = c
		}
	}
	return r
}

// checkReckoned holds a reader to the chapter's words, of all bytes at once, in parts that are cut anywhere, and of the end.
func checkReckoned(t *testing.T, most int, text string, next func(below int) int) told {
	t.Helper()
	want, end := reckon(most, text, false), reckon(most, text, true)
	for _, r := range []*reply.Reader{pushed(most, text), pushCut(reply.New(most), text, next)} {
		if is := tell(r); is != want {
			t.Errorf("of %d at most, of %q: %v; want %v", most, text, is, want)
		}
		r.End()
		if is := tell(r); is != end {
			t.Errorf("of %d at most, of %q and the end: %v; want %v", most, text, is, end)
		}
	}
	return end
}

// P8.2, P8.3, P0.3: each byte of several answers becomes each other one, goes, or comes twice.
func TestEachByteOfAnswers(t *testing.T) {
	next := sequence()
	for _, whole := range []string{
		"HTTP/1.1 200 /Content-Length:3//abcd", "HTTP/1.1 200 /Transfer-Encoding:chunked//2/ab/0//x", "HTTP/1.0 200 //abc",
	} {
		whole = lines(whole)
		for i := range whole {
			for c := range 256 {
				checkReckoned(t, 3, whole[:i]+string([]byte{byte(c)})+whole[i+1:], next)
			}
			checkReckoned(t, 3, whole[:i]+whole[i:i+1]+whole[i:], next)
			checkReckoned(t, 3, whole[:i]+whole[i+1:], next)
			checkReckoned(t, 3, whole[:i], next)
			checkReckoned(t, 3, whole[i:], next)
		}
	}
}

// someAnswer is an answer of any kind, a few of its bytes perhaps others.
func someAnswer(next func(below int) int) string {
	firsts := []string{okLine, okLine, okLine, okLine, okLine, oldLine, "HTTP/1.1 404 No/", "HTTP/1.2 200 OK/"}
	text := firsts[next(len(firsts))]
	for range next(3) {
		text += []string{"A: b/", "c:/", closing, "Connection: keep-alive/", "bad/"}[next(40)/9]
	}
	content := strings.Repeat("0123456789abcdef", 2)[:next(30)]
	switch next(5) {
	case 0, 1:
		text = lines(text+length(len(content))+"/") + content
	case 2, 3:
		text = lines(text + inParts + "/")
		for left := content; left != ""; {
			n := 1 + next(len(left))
			text += strconv.FormatInt(int64(n), 16) + "\r\n" + left[:n] + "\r\n"
			left = left[n:]
		}
		text += lines("0//")
	default:
		text = lines(text+"/") + content
	}
	b := []byte(text + []string{"", "", "x", "\r\n"}[next(4)])
	for range next(3) - 1 {
		b[next(len(b))] = byte(next(256))
	}
	return string(b[:len(b)-max(next(8)-5, 0)])
}

// P8.2, P8.3, P0.3
func TestSomeAnswers(t *testing.T) {
	next, came := sequence(), make(map[api.Errno]int)
	again := 0
	for range 20000 {
		text := someAnswer(next)
		is := checkReckoned(t, next(60), text, next)
		if t.Failed() {
			return
		}
		came[is.wrong]++
		if p, e := pushed(100, text).Reply(); e == api.OK && p.Reuse {
			again++
		}
	}
	for _, e := range []api.Errno{api.OK, api.ErrStatus, api.ErrHeader, api.ErrLarge, api.ErrChunk, api.ErrCode, api.ErrEnd} {
		if came[e] < 100 {
			t.Errorf("%v came %d times alone", e, came[e])
		}
	}
	if again < 1000 {
		t.Errorf("again %d times alone", again)
	}
}

// P8.3: a body is the same, whether by length, in chunks of any sizes, or till the end.
func TestOneBodyInAllWays(t *testing.T) {
	next := sequence()
	for size := range 200 {
		b := make([]byte, size)
		for i := range b {
			b[i] = byte(next(256))
		}
		content := string(b)
		byLength := lines(okLine+length(size)+"/") + content
		if is := tell(pushCut(reply.New(size), byLength, next)); is != answered(ofLength(size), content, true, 0) {
			t.Fatalf("by length, %q is %v", content, is)
		}
		inChunks := lines(okLine + inParts + "/")
		for left := content; left != ""; {
			n := 1 + next(len(left))
			inChunks += strconv.FormatInt(int64(n), 16) + "\r\n" + left[:n] + "\r\n"
			left = left[n:]
		}
		if is := tell(pushCut(reply.New(size), inChunks+lines("0//"), next)); is != answered(chunked, content, true, 0) {
			t.Fatalf("in chunks, %q is %v", content, is)
		}
		r := pushCut(reply.New(size), lines(okLine+"/")+content, next)
		r.End()
		if is := tell(r); is != answered(tillEnd, content, false, 0) {
			t.Fatalf("till the end, %q is %v", content, is)
		}
	}
}
