package body_test

import (
	"regexp"
	"strconv"
	"strings"
	"testing"

	"odometer/api"
	"odometer/body"
)

// What is not one of the letters stands for each byte from 128 on: alone it is none of a rune, and read as U+FFFD.
const textClass = "[\\t -~\\x{80}-\\x{10FFFF}]*"

var (
	sizeText  = regexp.MustCompile("^([0-9a-fA-F]{1,8})[ \\t]*(;" + textClass + ")?\r\n$")
	fieldText = regexp.MustCompile("^[a-zA-Z0-9!#$%&'*+.^_`|~-]+:" + textClass + "\r\n$")
)

// decodedOf is the body of bytes in chunks, as far as these are right.
func decodedOf(text string) string { return reckon(inChunks, 1<<40, text).body }

// reckon is what a decoder tells of bytes, by the chapter's words.
func reckon(h api.Head, most int, text string) told {
	most = max(most, 0)
	switch {
	case h.Chunked:
		return reckonChunks(most, text)
	case h.Length < 0 && len(text) > most:
		return told{taken: most + 1, wrong: api.ErrLarge, body: text[:most]}
	case h.Length < 0:
		return told{taken: len(text), body: text}
	case h.Length > int64(most):
		return told{wrong: api.ErrLarge}
	}
	n := min(int(h.Length), len(text))
	return told{taken: n, done: n == int(h.Length), body: text[:n]}
}

// reckonChunks goes over all chunks.
func reckonChunks(most int, text string) told {
	rest, whole := text, ""
	at := func(wrong api.Errno) told { return told{len(text) - len(rest), false, wrong, whole} }
	sizes := int64(0)
	for {
		line, more, ended := strings.Cut(rest, "\n")
		if ended && len(line) < 256 {
			rest = more
		} else if len(rest) >= 256 {
			rest = rest[256:]
			return at(api.ErrChunk)
		} else {
			rest = ""
			return at(api.OK)
		}
		parts := sizeText.FindStringSubmatch(line + "\n")
		if parts == nil {
			return at(api.ErrChunk)
		}
		size, _ := strconv.ParseInt(parts[1], 16, 64)
		sizes += size
		switch {
		case sizes > int64(most):
			return at(api.ErrLarge)
		case size == 0:
			return reckonTrailers(at(api.OK), rest)
		}
		n := min(size, int64(len(rest)))
		whole, rest = whole+rest[:n], rest[n:]
		for _, want := range []byte("\r\n") {
			if rest == "" {
				return at(api.OK)
			}
			c := rest[0]
			rest = rest[1:]
			if c != want {
				return at(api.ErrChunk)
			}
		}
	}
}

// reckonTrailers goes over what stands behind the last size line.
func reckonTrailers(is told, rest string) told {
	first := rest[:min(len(rest), 8192)]
	for _, line := range strings.SplitAfter(first, "\n") {
		is.taken += len(line)
		switch {
		case line == "\r\n":
			is.done = true
			return is
		case strings.HasSuffix(line, "\n") && !fieldText.MatchString(line):
			is.wrong = api.ErrChunk
			return is
		}
	}
	if len(rest) > len(first) {
		is.taken++
		is.wrong = api.ErrChunk
	}
	return is
}

// sequence gives numbers below others, the same in each run.
func sequence() func(below int) int {
	state := uint64(1)
	return func(below int) int {
		state = state*6364136223846793005 + 1442695040888963407
		return int(state >> 33 % uint64(below))
	}
}

// checkReckoned holds a decoder to the chapter's words, of all bytes at once, of each of their beginnings, and of parts that are cut anywhere.
func checkReckoned(t *testing.T, h api.Head, most int, text string, next func(below int) int) told {
	t.Helper()
	want := reckon(h, most, text)
	d := body.New(h, most)
	if is := tell(d, push(d, text)); is != want {
		t.Errorf("New(%v, %d), of %q, = %v; want %v", h, most, text, is, want)
	}
	d = body.New(h, most)
	taken := 0
	for at := 0; at < len(text); {
		n := 1 + next(len(text)-at)
		if next(3) > 0 {
			n = 1
		}
		taken += push(d, text[at:at+n])
		at += n
		if is, was := tell(d, taken), reckon(h, most, text[:at]); is != was {
			t.Errorf("New(%v, %d), of %q in parts, = %v; want %v", h, most, text[:at], is, was)
			break
		}
		if next(10) == 0 {
			d = d.Copy()
		}
	}
	d.End()
	switch {
	case want.done || want.wrong != api.OK:
	case !h.Chunked && h.Length < 0:
		want.done = true
	default:
		want.wrong = api.ErrEnd
	}
	if is := tell(d, taken); is != want {
		t.Errorf("New(%v, %d), of %q in parts, and the end, = %v; want %v", h, most, text, is, want)
	}
	return want
}

// P7.1, P7.3: of bytes in chunks, each becomes each other one, goes, or comes twice.
func TestEachByteOfChunks(t *testing.T) {
	next := sequence()
	for _, whole := range []string{"3/abc/0//more", "a ;x=1/0123456789/1/z/0//", "2/ab/00\t/A: b/c:d //3/", "0B \t/hello world/0;/a://"} {
		whole = lines(whole)
		for i := range whole {
			for c := range 256 {
				for _, most := range []int{3, 11, 100} {
					checkReckoned(t, inChunks, most, whole[:i]+string([]byte{byte(c)})+whole[i+1:], next)
					checkReckoned(t, inChunks, most, whole[:i]+string([]byte{byte(c)})+whole[i:], next)
				}
			}
			checkReckoned(t, inChunks, 11, whole[:i]+whole[i+1:], next)
			checkReckoned(t, inChunks, 11, whole[:i], next)
			checkReckoned(t, inChunks, 11, whole[i:], next)
		}
	}
}

// someChunks are bytes in chunks, a few of them perhaps others.
func someChunks(next func(below int) int) string {
	b := []byte{}
	for range next(5) {
		size := 1 + next(20)
		line := strings.Repeat("0", next(3)) + strconv.FormatInt(int64(size), 16) + []string{"", "", " ", " \t", ";", " ;a b", ";\xff"}[next(7)]
		if next(30) == 0 {
			line += ";" + strings.Repeat("x", 250-len(line)+next(6))
		}
		b = append(b, line+"\r\n"...)
		for range size {
			b = append(b, byte(next(256)))
		}
		b = append(b, "\r\n"...)
	}
	b = append(b, []string{"0", "00", "00000000", "0 ;x", "0\t"}[next(5)]+"\r\n"...)
	for range next(3) {
		b = append(b, []string{"a: b", "a:", "b-c:\t\xff", "T: u ", "bad"}[next(20)/4]+"\r\n"...)
	}
	if next(60) == 0 {
		b = append(b, "f: "+strings.Repeat("v", 8170+next(20))+"\r\n"...)
	}
	b = append(b, "\r\nmore"[:2+next(5)]...)
	for range next(3) - 1 {
		b[next(len(b))] = byte(next(256))
	}
	return string(b)
}

// P0.3, P7.1, P7.2, P7.3
func TestSomeChunks(t *testing.T) {
	next, came := sequence(), make(map[api.Errno]int)
	for range 20000 {
		text := someChunks(next)
		is := checkReckoned(t, inChunks, next(100), text, next)
		if t.Failed() {
			return
		}
		came[is.wrong]++
	}
	for _, e := range []api.Errno{api.OK, api.ErrChunk, api.ErrLarge, api.ErrEnd} {
		if came[e] < 100 {
			t.Errorf("%v came %d times alone", e, came[e])
		}
	}
}

// P7.1, P7.2, P7.3: of all lengths, and till the end
func TestSomeBodies(t *testing.T) {
	next := sequence()
	for range 20000 {
		text := someChunks(next)
		checkReckoned(t, ofLength(next(len(text)+10)), next(2*len(text)), text, next)
		checkReckoned(t, tillEnd, next(2*len(text)), text, next)
		if t.Failed() {
			return
		}
	}
}

// inParts encodes a body in chunks of sizes that come next.
func inParts(b string, size func() int) string {
	text := ""
	for len(b) > 0 {
		n := min(len(b), max(size(), 1))
		text += strconv.FormatInt(int64(n), 16) + "\r\n" + b[:n] + "\r\n"
		b = b[n:]
	}
	return text + "0\r\n\r\n"
}

// P7.3: what was taken by length, in chunks of any sizes, is the same body.
func TestOneBodyInAllWays(t *testing.T) {
	next := sequence()
	for size := range 300 {
		b := make([]byte, size)
		for i := range b {
			b[i] = byte(next(256))
		}
		byLength := body.New(ofLength(size), size)
		push(byLength, string(b))
		want := string(byLength.Body())
		if !byLength.Done() || want != string(b) {
			t.Fatalf("by length, %q is %q", b, want)
		}
		checkEnded(t, tillEnd, size, want, told{taken: size, done: true, body: want})
		for _, most := range []int{1, 2, 3, 7, 16, 100, size + 1} {
			for _, sizes := range []func() int{func() int { return most }, func() int { return 1 + next(most) }} {
				text := inParts(want, sizes)
				for range 4 {
					d := body.New(inChunks, size)
					taken := 0
					for at := 0; at < len(text); {
						n := min(1+next(1+next(40)), len(text)-at)
						taken += push(d, text[at:at+n])
						at += n
					}
					if is := tell(d, taken); is != (told{taken: len(text), done: true, body: want}) {
						t.Fatalf("in chunks, %q is %v", b, is)
					}
				}
			}
		}
	}
}

// P7.3, P0.4: a body of MaxBody bytes
func TestGreatBodyInChunks(t *testing.T) {
	want := strings.Repeat("0123456789abcdef", api.MaxBody/16)
	for _, size := range []int{api.MaxBody, 65536, 1000} {
		text := inParts(want, func() int { return size })
		for _, part := range []int{len(text), 4096, 1} {
			d := body.New(inChunks, api.MaxBody)
			taken := 0
			for at := 0; at < len(text); at += part {
				taken += push(d, text[at:min(at+part, len(text))])
			}
			if is := tell(d, taken); is != (told{taken: len(text), done: true, body: want}) {
				t.Errorf("in chunks of %d, by %d: %v", size, part, is)
			}
		}
		d := body.New(inChunks, api.MaxBody-1)
		push(d, text)
		if d.Wrong() != api.ErrLarge || d.Done() || len(d.Body()) >= api.MaxBody {
			t.Errorf("in chunks of %d, of one byte less: %v, %d bytes", size, d.Wrong(), len(d.Body()))
		}
	}
}
