package body_test

import (
	"bytes"
	"fmt"
	"math"
	"strconv"
	"strings"
	"testing"

	"odometer/api"
	"odometer/body"
)

var (
	inChunks = api.Head{Status: 200, Length: -1, Chunked: true}
	tillEnd  = api.Head{Status: 200, Length: -1, Close: true}
)

// ofLength is a head that tells a length.
func ofLength(size int) api.Head { return api.Head{Status: 200, Length: int64(size)} }

// lines are bytes, with 13 10 for each '/'.
func lines(text string) string { return strings.ReplaceAll(text, "/", "\r\n") }

// marked are bytes, with 13 10 for each '/', and how many of them stand ahead of the '|' (all, if there is none).
func marked(text string) (string, int) {
	taken, rest, _ := strings.Cut(lines(text), "|")
	return taken + rest, len(taken)
}

// told is what a decoder tells.
type told struct {
	taken int
	done  bool
	wrong api.Errno
	body  string
}

func (w told) String() string {
	return fmt.Sprintf("%d taken, done %v, %v, %.200q", w.taken, w.done, w.wrong, w.body)
}

// tell is what a decoder tells that took so many bytes.
func tell(d *body.Decoder, taken int) told {
	return told{taken, d.Done(), d.Wrong(), string(d.Body())}
}

// push gives a decoder bytes, one part behind the other.
func push(d *body.Decoder, parts ...string) int {
	taken := 0
	for _, part := range parts {
		taken += d.Push([]byte(part))
	}
	return taken
}

// cuts are ways to cut bytes: not at all, anywhere (of many bytes in some places, and near their end), everywhere, and with parts of no bytes.
func cuts(text string) [][]string {
	ways := [][]string{{text}, each(text), {"", text, ""}}
	for i := 1; i < len(text); i++ {
		if len(text) > 200 && i%(len(text)/10) > 0 && i < len(text)-4 {
			continue
		}
		ways = append(ways, []string{text[:i], text[i:]}, []string{text[:i], "", text[i : i+1], text[i+1:]})
	}
	return ways
}

// each are a text's bytes.
func each(text string) []string {
	var list []string
	for i := range len(text) {
		list = append(list, text[i:i+1])
	}
	return list
}

// check holds a decoder to what it tells of bytes, however they are cut; if it is over then, it takes nothing more, and stays as it is.
func check(t *testing.T, h api.Head, most int, text string, want told) {
	t.Helper()
	for _, parts := range cuts(text) {
		d := body.New(h, most)
		if is := tell(d, push(d, parts...)); is != want {
			t.Errorf("New(%v, %d), of %.300q (%d bytes, in %d parts), = %v; want %v", h, most, text, len(text), len(parts), is, want)
			return
		}
		if want.done || want.wrong != api.OK {
			checkOver(t, d, want)
		}
	}
}

// checkOver holds a decoder to it that nothing happens to it any more.
func checkOver(t *testing.T, d *body.Decoder, want told) {
	t.Helper()
	for _, more := range []string{"0", "abc", "\r\n", "", lines("1/a/0//")} {
		if taken := push(d, more); taken != 0 {
			t.Errorf("over, it took %d of %q", taken, more)
		}
		if is := tell(d, want.taken); is != want {
			t.Errorf("over, it told %v behind %q; want %v", is, more, want)
		}
		d.End()
	}
}

// checkEnded holds a decoder to what it tells when the connection ended behind bytes.
func checkEnded(t *testing.T, h api.Head, most int, text string, want told) {
	t.Helper()
	for _, parts := range cuts(text) {
		d := body.New(h, most)
		taken := push(d, parts...)
		d.End()
		if is := tell(d, taken); is != want {
			t.Errorf("New(%v, %d), of %.300q (in %d parts) and the end, = %v; want %v", h, most, text, len(parts), is, want)
			return
		}
		checkOver(t, d, want)
	}
}

// P7.1, P7.2: no decoder

func TestNone(t *testing.T) {
	var d *body.Decoder
	for range 2 {
		if n := d.Push([]byte("abc")); n != 0 {
			t.Error("Push", n)
		}
		d.End()
		if d.Done() || d.Wrong() != api.ErrNil || len(d.Body()) != 0 || d.Copy() != nil {
			t.Error(d.Done(), d.Wrong(), d.Body(), d.Copy())
		}
	}
}

func TestZero(t *testing.T) {
	checkOver(t, new(body.Decoder), told{done: true})
	checkOver(t, new(body.Decoder).Copy(), told{done: true})
}

// P7.1, P7.2: by length

func TestLengths(t *testing.T) {
	text := "abcdefghijklmnop"
	for size := range 12 {
		for _, most := range []int{size, size + 1, size + 2, 1000, math.MaxInt} {
			for n := range len(text) {
				want := told{taken: min(n, size), done: n >= size, body: text[:min(n, size)]}
				check(t, ofLength(size), most, text[:n], want)
				if n < size {
					want.wrong = api.ErrEnd
				}
				checkEnded(t, ofLength(size), most, text[:n], want)
			}
		}
	}
}

func TestLengthsAboveMost(t *testing.T) {
	large := told{wrong: api.ErrLarge}
	for size := 1; size < 12; size++ {
		for most := -2; most < size; most++ {
			check(t, ofLength(size), most, "", large)
			check(t, ofLength(size), most, "abcdefghijklmnop", large)
			checkEnded(t, ofLength(size), most, "", large)
			checkEnded(t, ofLength(size), most, "abc", large)
		}
	}
	for _, size := range []int64{1, 2, api.MaxBody + 1, 1 << 32, 1<<32 + 1, math.MaxInt64} {
		for _, most := range []int{0, -1, math.MinInt, int(size - 1)} {
			check(t, api.Head{Length: size}, most, "abc", large)
		}
	}
}

func TestLengthsOfNone(t *testing.T) {
	for _, most := range []int{0, -1, -5, math.MinInt, 1, math.MaxInt} {
		check(t, ofLength(0), most, "", told{done: true})
		check(t, ofLength(0), most, "abc", told{done: true})
		checkEnded(t, ofLength(0), most, "", told{done: true})
	}
}

// A great length is no reason to take memory ahead of its bytes.
func TestGreatLengths(t *testing.T) {
	for _, size := range []int64{math.MaxInt64, 1 << 50, 999999999999999} {
		check(t, api.Head{Length: size}, math.MaxInt, "abc", told{taken: 3, body: "abc"})
		checkEnded(t, api.Head{Length: size}, math.MaxInt, "abc", told{taken: 3, body: "abc", wrong: api.ErrEnd})
	}
	text := strings.Repeat("0123456789abcdef", api.MaxBody/16)
	d := body.New(ofLength(len(text)), api.MaxBody)
	if is := tell(d, push(d, text+"more")); is != (told{taken: len(text), done: true, body: text}) {
		t.Error("a body of MaxBody bytes")
	}
	d = body.New(ofLength(len(text)), api.MaxBody)
	if is := tell(d, push(d, each(text)...)); is != (told{taken: len(text), done: true, body: text}) {
		t.Error("a body of MaxBody bytes, byte by byte")
	}
}

// Each byte may be a body's; what it looks like tells nothing.
func TestAllBytes(t *testing.T) {
	text := ""
	for c := range 256 {
		text += string([]byte{byte(c)})
	}
	text += lines("0//1/a/0//")
	check(t, ofLength(len(text)), len(text), text+"more", told{taken: len(text), done: true, body: text})
	check(t, tillEnd, len(text), text, told{taken: len(text), body: text})
	line := strconv.FormatInt(int64(len(text)), 16)
	check(t, inChunks, len(text), lines(line+"/")+text+lines("/0//more"), told{taken: len(line) + 2 + len(text) + 7, done: true, body: text})
}

// P7.1, P7.2: till the connection is closed

func TestOpen(t *testing.T) {
	for _, h := range []api.Head{tillEnd, {Length: -1}, {Length: -2}, {Length: math.MinInt64}} {
		for _, text := range []string{"", "a", "abc", "0\r\n\r\n", "\n\n", "\x00"} {
			for _, most := range []int{len(text), len(text) + 1, 1000, math.MaxInt} {
				check(t, h, most, text, told{taken: len(text), body: text})
				checkEnded(t, h, most, text, told{taken: len(text), done: true, body: text})
			}
			for most := range len(text) {
				want := told{taken: most + 1, wrong: api.ErrLarge, body: text[:most]}
				check(t, h, most, text, want)
				check(t, h, most, text+"more", want)
				checkEnded(t, h, most, text, want)
			}
		}
		for _, most := range []int{0, -1, math.MinInt} {
			check(t, h, most, "", told{})
			checkEnded(t, h, most, "", told{done: true})
			check(t, h, most, "a", told{taken: 1, wrong: api.ErrLarge})
			check(t, h, most, "abc", told{taken: 1, wrong: api.ErrLarge})
		}
	}
	text := strings.Repeat("z", api.MaxBody)
	checkEnded(t, tillEnd, api.MaxBody, text[:5000], told{taken: 5000, done: true, body: text[:5000]})
	d := body.New(tillEnd, api.MaxBody)
	if is := tell(d, push(d, text, "more")); is != (told{taken: len(text) + 1, wrong: api.ErrLarge, body: text}) {
		t.Error("a body of more than MaxBody bytes")
	}
}

// P7.2: what is answered, and handed in, is the caller's own

func TestBodiesOfTheCallersOwn(t *testing.T) {
	for _, h := range []api.Head{ofLength(9), tillEnd, inChunks} {
		d := body.New(h, 100)
		parts := []string{"abc", "def", "ghi"}
		if h.Chunked {
			parts = []string{"9\r\nabc", "def", "ghi"}
		}
		for _, part := range parts {
			b := append(make([]byte, 0, 64), part...)
			d.Push(b)
			if string(b) != part || !bytes.Equal(b[len(b):cap(b)], make([]byte, cap(b)-len(b))) {
				t.Errorf("Push made %q of %q", b[:cap(b)], part)
			}
			clear(b)
			answer := d.Body()
			clear(answer)
			_ = append(answer, "zzz"...)
		}
		if string(d.Body()) != "abcdefghi" {
			t.Errorf("of %v the body is %q", h, d.Body())
		}
	}
}

// What a Body has stays as it is when more is taken.
func TestBodiesThatStay(t *testing.T) {
	d := body.New(tillEnd, 1000)
	var list [][]byte
	for range 100 {
		list = append(list, d.Body())
		d.Push([]byte("x"))
	}
	for i, b := range list {
		if string(b) != strings.Repeat("x", i) {
			t.Errorf("the body of %d bytes is %q", i, b)
		}
	}
}
