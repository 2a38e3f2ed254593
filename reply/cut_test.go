package reply_test

import (
	"strings"
	"testing"

	"odometer/api"
	"odometer/reply"
)

// answers are bytes of each way that an answer can be, and what a reader of bodies of 9 bytes tells of them.
func answers() map[string]told {
	list := make(map[string]told)
	for text, want := range map[string]told{
		okLine + length(5) + "/hello":                         answered(ofLength(5), "hello", true, 0),
		okLine + length(5) + "/hello//":                       answered(ofLength(5), "hello", false, 4),
		okLine + length(0) + "/":                              answered(ofLength(0), "", true, 0),
		okLine + length(0) + "/" + okLine + length(0) + "/":   answered(ofLength(0), "", false, 38),
		okLine + length(2) + closing + "/abc":                 answered(api.Head{Status: 200, Length: 2, Close: true}, "ab", false, 1),
		oldLine + length(2) + "/ab":                           answered(api.Head{Status: 200, Length: 2, Close: true}, "ab", false, 0),
		okLine + inParts + "/2;x/ab/00003/cde/0/t: u//":       answered(chunked, "abcde", true, 0),
		okLine + inParts + "/4////0//more":                    answered(chunked, "\r\n\r\n", false, 4),
		okLine + inParts + closing + "/0//":                   answered(api.Head{Status: 200, Length: -1, Chunked: true, Close: true}, "", false, 0),
		okLine + "/all of it":                                 within(tillEnd),
		okLine + "/":                                          within(tillEnd),
		okLine + "/all of this":                               noBody(api.ErrLarge, tillEnd),
		okLine + length(9) + "/eightie ":                      within(ofLength(9)),
		okLine + length(10) + "/0123456789":                   noBody(api.ErrLarge, ofLength(10)),
		okLine + inParts + "/5/01234/5/56789/0//":             noBody(api.ErrLarge, chunked),
		okLine + inParts + "/5/01234x/1/5/0//":                noBody(api.ErrChunk, chunked),
		okLine + inParts + "/g/":                              noBody(api.ErrChunk, chunked),
		okLine + inParts + "/0/x/":                            noBody(api.ErrChunk, chunked),
		okLine + inParts + "/5/0123":                          within(chunked),
		"":                                                    early(),
		okLine + length(5):                                    early(),
		"HTTP/1.1 404 No/" + length(99) + "\r":                early(),
		"HTTP/1.1 404 No/" + length(99) + "/abc":              noBody(api.ErrCode, api.Head{Status: 404, Length: 99}),
		"HTTP/1.1 301 /" + inParts + "/g/":                    noBody(api.ErrCode, api.Head{Status: 301, Length: -1, Chunked: true}),
		"HTTP/1.1 404 No/ /":                                  noHead(api.ErrHeader),
		"HTTP/1.1 500 No/" + length(1) + length(2) + "/a":     noHead(api.ErrLength),
		okLine + inParts + length(2) + "/ab":                  noHead(api.ErrLength),
		okLine + "Transfer-Encoding: x//ab":                   noHead(api.ErrChunk),
		"HTTP/2 200 OK/" + length(2) + "/ab":                  noHead(api.ErrStatus),
		"\n" + okLine + length(2) + "/ab":                     noHead(api.ErrStatus),
		okLine + "a\n" + length(2) + "/ab":                    noHead(api.ErrHeader),
		okLine + length(1) + strings.Repeat("f:/", 64) + "/a": noHead(api.ErrHeader),
	} {
		list[lines(text)] = want
	}
	return list
}

// endOf is what a reader tells when the connection ended behind a text, of which it told this ahead.
func endOf(of told, text string) told {
	_, body, _ := strings.Cut(text, "\r\n\r\n")
	switch {
	case of.over:
		of.reuse = false
		return of
	case !of.whole:
		return noHead(api.ErrEnd)
	case of.head == tillEnd:
		return answered(tillEnd, body, false, 0)
	}
	return noBody(api.ErrEnd, of.head)
}

// P8.3: the same bytes, cut at each place, at any two, and everywhere, are the same answer, or the same error.
func TestCutAnywhere(t *testing.T) {
	for text, want := range answers() {
		end := endOf(want, text)
		for i := range len(text) + 1 {
			for j := i; j <= len(text); j++ {
				r := pushed(9, text[:i], text[i:j], text[j:])
				if is := tell(r); is != want {
					t.Fatalf("of %q, cut at %d and %d: %v; want %v", text, i, j, is, want)
				}
				r.End()
				if is := tell(r); is != end {
					t.Fatalf("of %q, cut at %d and %d, and the end: %v; want %v", text, i, j, is, end)
				}
			}
		}
		r := pushed(9, each(text)...)
		if is := tell(r); is != want {
			t.Errorf("of %q, byte by byte: %v; want %v", text, is, want)
		}
		r.End()
		if is := tell(r); is != end {
			t.Errorf("of %q, byte by byte, and the end: %v; want %v", text, is, end)
		}
	}
}

// P8.3: nor does it tell anything that it is asked meanwhile.
func TestAskedMeanwhile(t *testing.T) {
	for text, want := range answers() {
		r := reply.New(9)
		for i, part := range each(text) {
			r.Push([]byte(part))
			if is, once := tell(r), tell(pushed(9, text[:i+1])); is != once {
				t.Fatalf("of %q, byte by byte: %v; at once %v", text[:i+1], is, once)
			}
		}
		if is := tell(r); is != want {
			t.Errorf("of %q: %v; want %v", text, is, want)
		}
	}
}

// What is over stays over, whatever comes: an error as it is; an answer but for whether its connection may be used again.
func TestOverStays(t *testing.T) {
	for text := range answers() {
		over := told{}
		r := reply.New(9)
		for _, part := range each(text + lines("/"+okLine+length(1)+"/x")) {
			r.Push([]byte(part))
			is := tell(r)
			if over.over {
				over.rest, over.reuse = is.rest, over.reuse && is.rest == 0
			}
			if over.over && is != over {
				t.Fatalf("of %q and more: %v; it was %v", text, is, over)
			}
			over = is
		}
	}
}

// A head of all the bytes that it may have, cut anywhere near its end.
func TestCutGreatHeads(t *testing.T) {
	for size := 8189; size <= 8195; size++ {
		text := headOf(size, 3) + "abcd"
		want := answered(ofLength(3), "abc", false, 1)
		if size > api.MaxHead {
			want = noHead(api.ErrLarge)
		}
		for i := size - 40; i <= len(text); i++ {
			for j := i; j <= len(text); j++ {
				if is := tell(pushed(9, text[:i], text[i:j], text[j:])); is != want {
					t.Fatalf("a head of %d bytes, cut at %d and %d: %v; want %v", size, i, j, is, want)
				}
			}
		}
		if is := tell(pushed(9, each(text)...)); is != want {
			t.Errorf("a head of %d bytes, byte by byte: %v; want %v", size, is, want)
		}
	}
}
