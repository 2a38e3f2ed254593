package reply_test

import (
	"strings"
	"testing"

	"odometer/api"
	"odometer/reply"
)

// way is a beginning of an answer with two ends, and what comes of each (bodies of 8 bytes at most).
type way struct {
	first, one, other string
	ofOne, ofOther    told
}

// ways have ends for each place in which a reader may be copied: within a head, at its end, within a body, behind it, behind an error.
func ways() []way {
	list := []way{
		{"", okLine + length(1) + "/a", "HTTP/1.1 404 No//", answered(ofLength(1), "a", true, 0), noBody(api.ErrCode, tillEndOf(404))},
		{"HTTP", "/2 200 OK/", "/1.1 200 OK/" + length(0) + "/x", noHead(api.ErrStatus), answered(ofLength(0), "", false, 1)},
		{"HTTP/1.1 2", "00 OK//abc", "01 OK//abc", within(tillEnd), noBody(api.ErrCode, tillEndOf(201))},
		{okLine + "Content-Length: ", "2//ab", "3//abcd", answered(ofLength(2), "ab", true, 0), answered(ofLength(3), "abc", false, 1)},
		{okLine + length(2), "/ab", "bad/", answered(ofLength(2), "ab", true, 0), noHead(api.ErrHeader)},
		{okLine + length(2) + "\r", "\nab", "bad", answered(ofLength(2), "ab", true, 0), early()},
		{okLine + length(8) + "/abcd", "efgh", "ijk", answered(ofLength(8), "abcdefgh", true, 0), within(ofLength(8))},
		{okLine + "/abcd", "efgh", "ijklm", within(tillEnd), noBody(api.ErrLarge, tillEnd)},
		{okLine + inParts + "/5/abc", "de/3/fgh/0//", "fg/2/hi/0//more", answered(chunked, "abcdefgh", true, 0), answered(chunked, "abcfghi", false, 4)},
		{okLine + inParts + "/3/abc", "x/", "/1/d/0/t: u//", noBody(api.ErrChunk, chunked), answered(chunked, "abcd", true, 0)},
		{okLine + length(1) + "/a", "bc", "", answered(ofLength(1), "a", false, 2), answered(ofLength(1), "a", true, 0)},
		{okLine + length(1) + "/ab", "c", "defg", answered(ofLength(1), "a", false, 2), answered(ofLength(1), "a", false, 5)},
		{okLine + "bad/", "a", "bcd", noHead(api.ErrHeader), noHead(api.ErrHeader)},
		{okLine + length(9) + "/", "a", "bcd", noBody(api.ErrLarge, ofLength(9)), noBody(api.ErrLarge, ofLength(9))},
	}
	for i := range list {
		w := &list[i]
		w.first, w.one, w.other = lines(w.first), lines(w.one), lines(w.other)
		if strings.HasPrefix(w.first, "HTTP") && len(w.first) == 4 { // its '/' stands in the ends
			w.one, w.other = "/"+w.one[2:], "/"+w.other[2:]
		}
	}
	return list
}

// tillEndOf is the head of another status that tells nothing else.
func tillEndOf(status int) api.Head { return api.Head{Status: status, Length: -1, Close: true} }

// push gives a reader a text, all at once, or byte by byte.
func push(r *reply.Reader, text string, bytewise bool) {
	parts := []string{text}
	if bytewise {
		parts = each(text)
	}
	for _, part := range parts {
		r.Push([]byte(part))
	}
}

// P8.2: a copy goes on apart, whichever goes on first, and how

func TestCopies(t *testing.T) {
	for i, w := range ways() {
		for _, bytewise := range []bool{false, true} {
			for _, copyFirst := range []bool{false, true} {
				r := pushed(8, each(w.first)...)
				was := tell(r)
				c := r.Copy()
				if tell(c) != was || tell(r) != was {
					t.Errorf("way %d: %v, a copy %v; it was %v", i, tell(r), tell(c), was)
				}
				if copyFirst {
					push(c, w.other, bytewise)
					push(r, w.one, bytewise)
				} else {
					push(r, w.one, bytewise)
					push(c, w.other, bytewise)
				}
				if one, other := tell(r), tell(c); one != w.ofOne || other != w.ofOther {
					t.Errorf("way %d: %v and %v; want %v and %v", i, one, other, w.ofOne, w.ofOther)
				}
			}
		}
	}
}

// Both go on by turns, byte by byte.
func TestCopiesByTurns(t *testing.T) {
	for i, w := range ways() {
		for _, whole := range []bool{false, true} { // of what came in one part there may be room behind
			r := reply.New(8)
			push(r, w.first, !whole)
			c := r.Copy()
			for at := range max(len(w.one), len(w.other)) {
				if at < len(w.one) {
					r.Push([]byte(w.one[at : at+1]))
				}
				if at < len(w.other) {
					c.Push([]byte(w.other[at : at+1]))
				}
			}
			if one, other := tell(r), tell(c); one != w.ofOne || other != w.ofOther {
				t.Errorf("way %d: %v and %v; want %v and %v", i, one, other, w.ofOne, w.ofOther)
			}
		}
	}
}

// Copies that were made at each place, and copies of these, go on as it would.
func TestCopiesOfCopies(t *testing.T) {
	for text, want := range answers() {
		r := reply.New(9)
		var list []*reply.Reader
		for _, part := range each(text) {
			list = append(list, r)
			r = r.Copy().Copy()
			r.Push([]byte(part))
		}
		if is := tell(r); is != want {
			t.Errorf("of %q: %v; want %v", text, is, want)
		}
		for at, r := range list {
			r.Push([]byte(text[at:]))
			if is := tell(r); is != want {
				t.Errorf("of %q, from byte %d: %v; want %v", text, at, is, want)
			}
		}
	}
}

// The connection's end, of one, is none of the other's.
func TestCopiesAndEnds(t *testing.T) {
	for text, want := range answers() {
		r := pushed(9, text)
		c := r.Copy()
		c.End()
		if is, other := tell(r), tell(c); is != want || other != endOf(want, text) {
			t.Errorf("of %q, the copy's end: %v and %v", text, is, other)
		}
		if is := tell(c.Copy()); is != endOf(want, text) {
			t.Errorf("of %q, a copy behind the end: %v", text, is)
		}
		c = r.Copy()
		r.End()
		if is, other := tell(c), tell(r); is != want || other != endOf(want, text) {
			t.Errorf("of %q, its end: %v and %v", text, is, other)
		}
	}
}
