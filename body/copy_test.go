package body_test

import (
	"testing"

	"odometer/api"
	"odometer/body"
)

// way is a decoder's bytes: one beginning with two ends, and what comes of each. In the ends '|' stands behind what is taken.
type way struct {
	head       api.Head
	first      string
	one, other string
	ofOne      told
	ofOther    told
}

// ways have ends for each place in which a decoder may be copied: within a body, a size line, what stands behind a chunk, a trailer. Its most is 8.
func ways() []way {
	done := func(b string) told { return told{done: true, body: b} }
	wrong := func(b string, e api.Errno) told { return told{wrong: e, body: b} }
	list := []way{
		{ofLength(8), "abcd", "efgh|more", "ijkl|more", done("abcdefgh"), done("abcdijkl")},
		{tillEnd, "abcd", "efgh|", "ijklm|more", told{body: "abcdefgh"}, wrong("abcdijkl", api.ErrLarge)},
		{inChunks, "5/abc", "de/3/fgh/0//|", "fg/2/hi/0//|more", done("abcdefgh"), done("abcfghi")},
		{inChunks, "3/abc/0", "2/de/0/a:b//|", "3;x/fgh/0//|", done("abcde"), done("abcfgh")},
		{inChunks, "3/abc", "/0//|", "x|", done("abc"), wrong("abc", api.ErrChunk)},
		{inChunks, "3/abc\r", "\n|", "x|/", told{body: "abc"}, wrong("abc", api.ErrChunk)},
		{inChunks, "3/abc/0;", "x//|", "\x00/|/", done("abc"), wrong("abc", api.ErrChunk)},
		{inChunks, "3/abc/0/a:b/c", ":d//|", "/|/", done("abc"), wrong("abc", api.ErrChunk)},
		{inChunks, "3/abc/", "5/defgh/0//|", "6/|defghi", done("abcdefgh"), wrong("abc", api.ErrLarge)},
		{inChunks, "0/\r", "\n|", "\r|", done(""), told{}},
	}
	for i := range list {
		w := &list[i]
		w.first = lines(w.first)
		w.one, w.ofOne.taken = marked(w.one)
		w.other, w.ofOther.taken = marked(w.other)
		w.ofOne.taken += len(w.first)
		w.ofOther.taken += len(w.first)
	}
	return list
}

// begun is a decoder that took the beginning of a way, byte by byte.
func (w *way) begun() (*body.Decoder, int) {
	d := body.New(w.head, 8)
	return d, push(d, each(w.first)...)
}

// P7.2: a copy goes on apart, whichever goes on first, and how

func TestCopies(t *testing.T) {
	for i, w := range ways() {
		for _, cut := range []func(string) []string{each, func(s string) []string { return []string{s} }} {
			d, taken := w.begun()
			c := d.Copy()
			if is, was := tell(c, taken), tell(d, taken); is != was {
				t.Errorf("way %d: a copy is %v, of %v", i, is, was)
			}
			one := tell(d, taken+push(d, cut(w.one)...))
			other := tell(c, taken+push(c, cut(w.other)...))
			if again := tell(d, one.taken); one != w.ofOne || other != w.ofOther || again != one {
				t.Errorf("way %d: %v and %v; want %v and %v; later %v", i, one, other, w.ofOne, w.ofOther, again)
			}
			d, taken = w.begun()
			c = d.Copy()
			other = tell(c, taken+push(c, cut(w.other)...))
			one = tell(d, taken+push(d, cut(w.one)...))
			if again := tell(c, other.taken); one != w.ofOne || other != w.ofOther || again != other {
				t.Errorf("way %d, the copy first: %v and %v; want %v and %v; later %v", i, one, other, w.ofOne, w.ofOther, again)
			}
		}
	}
}

// Both go on by turns, byte by byte.
func TestCopiesByTurns(t *testing.T) {
	for i, w := range ways() {
		d, taken := w.begun()
		c := d.Copy()
		one, other := taken, taken
		for at := range max(len(w.one), len(w.other)) {
			if at < len(w.one) {
				one += push(d, w.one[at:at+1])
			}
			if at < len(w.other) {
				other += push(c, w.other[at:at+1])
			}
		}
		if is, of := tell(d, one), tell(c, other); is != w.ofOne || of != w.ofOther {
			t.Errorf("way %d: %v and %v; want %v and %v", i, is, of, w.ofOne, w.ofOther)
		}
	}
}

// A copy that was made at each place, and copies of these, go on as it would.
func TestCopiesOfCopies(t *testing.T) {
	for i, w := range ways() {
		d := body.New(w.head, 8)
		taken, list := 0, []*body.Decoder{}
		for _, c := range each(w.first + w.one) {
			list = append(list, d)
			d = d.Copy().Copy()
			taken += push(d, c)
		}
		if is := tell(d, taken); is != w.ofOne {
			t.Errorf("way %d: %v; want %v", i, is, w.ofOne)
		}
		for at, d := range list {
			before := len((w.first + w.one)[:at])
			n := push(d, (w.first + w.one)[at:])
			if is := tell(d, min(before, w.ofOne.taken)+n); is != w.ofOne {
				t.Errorf("way %d, from byte %d: %v; want %v", i, at, is, w.ofOne)
			}
		}
	}
}

// Many copies of one, of each size, take other bytes each.
func TestCopiesOfEachSize(t *testing.T) {
	d := body.New(tillEnd, 1000)
	text := ""
	for i := range 200 {
		var list []*body.Decoder
		for range 3 {
			list = append(list, d.Copy())
		}
		for at, c := range list {
			c.Push([]byte{byte('a' + at), byte('p' + at)})
		}
		mark := byte('A' + i%26)
		d.Push([]byte{mark})
		for at, c := range list {
			if want := text + string([]byte{byte('a' + at), byte('p' + at)}); string(c.Body()) != want {
				t.Fatalf("copy %d of %d bytes is %q, want %q", at, i, c.Body(), want)
			}
		}
		text += string([]byte{mark})
		if string(d.Body()) != text {
			t.Fatalf("it is %q, want %q", d.Body(), text)
		}
	}
}

// The end of the connection, of one, is none of the other's.
func TestCopiesAndEnds(t *testing.T) {
	for _, h := range []api.Head{ofLength(8), tillEnd, inChunks} {
		want := told{wrong: api.ErrEnd}
		if h == tillEnd {
			want = told{done: true}
		}
		d := body.New(h, 8)
		c := d.Copy()
		d.End()
		if is, other := tell(d, 0), tell(c, 0); is != want || other != (told{}) {
			t.Errorf("of %v: %v and %v", h, is, other)
		}
		checkOver(t, d.Copy(), want)
		checkOver(t, d, want)
		if n := push(c, "0"); n != 1 {
			t.Errorf("of %v the copy took %d", h, n)
		}
	}
	for _, d := range []*body.Decoder{body.New(ofLength(9), 8), body.New(ofLength(0), 8)} {
		checkOver(t, d.Copy(), tell(d, 0))
	}
}
