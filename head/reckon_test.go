package head_test

import (
	"regexp"
	"slices"
	"strconv"
	"strings"
	"testing"

	"odometer/api"
	"odometer/head"
)

// What is not one of the letters stands for each byte from 128 on: alone it is none of a rune, and read as U+FFFD.
const textClass = "[\\t -~\\x{80}-\\x{10FFFF}]*"

var (
	statusText = regexp.MustCompile("^HTTP/1\\.([01]) ([0-9]{3}) " + textClass + "$")
	fieldText  = regexp.MustCompile("^([a-zA-Z0-9!#$%&'*+.^_`|~-]+):[ \\t]*(" + textClass + ")$")
	lengthText = regexp.MustCompile("^[0-9]{1,15}$")
	chunkText  = regexp.MustCompile("^[cC][hH][uU][nN][kK][eE][dD]$")
	closeText  = regexp.MustCompile("(^|,)[ \\t]*[cC][lL][oO][sS][eE][ \\t]*(,|$)")
	keepText   = regexp.MustCompile("(^|,)[ \\t]*[kK][eE][eE][pP]-[aA][lL][iI][vV][eE][ \\t]*(,|$)")
)

// reckoned is a head, by the chapter's words.
type reckoned struct {
	lines  api.Errno
	whole  api.Errno
	size   int
	fields []api.Field
	head   api.Head
}

// reckon goes over the lines of the head of bytes.
func reckon(b []byte) reckoned {
	var r reckoned
	text := string(b[:min(len(b), 8192)])
	list := strings.Split(text, "\r\n")
	for i, line := range list[:len(list)-1] {
		parts := fieldText.FindStringSubmatch(line)
		switch {
		case i == 0 && !statusText.MatchString(line):
			return reckoned{lines: api.ErrStatus, whole: api.ErrStatus}
		case i == 0:
		case line == "":
			r.size = len(strings.Join(list[:i], "\r\n")) + 4
			r.reckonHead(list[0])
			return r
		case parts == nil || i > 64:
			return reckoned{lines: api.ErrHeader, whole: api.ErrHeader}
		default:
			r.fields = append(r.fields, api.Field{Name: strings.ToLower(parts[1]), Value: strings.TrimRight(parts[2], " \t")})
		}
	}
	if len(text) == 8192 {
		return reckoned{lines: api.ErrLarge, whole: api.ErrLarge}
	}
	return reckoned{lines: api.ErrEnd}
}

// reckonHead reckons what a status line and the fields behind it tell.
func (r *reckoned) reckonHead(line string) {
	parts := statusText.FindStringSubmatch(line)
	old, codings, lengths, badLength := parts[1] == "0", 0, 0, false
	h := api.Head{Length: -1}
	h.Status, _ = strconv.Atoi(parts[2])
	closes, keeps := false, false
	length := ""
	for _, f := range r.fields {
		switch f.Name {
		case "content-length":
			badLength = badLength || !lengthText.MatchString(f.Value) || lengths > 0 && f.Value != length
			length = f.Value
			lengths++
		case "transfer-encoding":
			h.Chunked = codings == 0 && !old && chunkText.MatchString(f.Value)
			codings++
		case "connection":
			closes = closes || closeText.MatchString(f.Value)
			keeps = keeps || keepText.MatchString(f.Value)
		}
	}
	switch {
	case badLength || lengths > 0 && codings > 0:
		r.whole = api.ErrLength
	case codings > 0 && !h.Chunked:
		r.whole = api.ErrChunk
	default:
		if lengths > 0 {
			h.Length, _ = strconv.ParseInt(length, 10, 64)
		}
		h.Close = closes || lengths+codings == 0 || old && !keeps
		r.head = h
	}
}

// checkReckoned holds Parse and Fields against the chapter's words.
func checkReckoned(t *testing.T, b []byte) {
	t.Helper()
	r := reckon(b)
	if r.whole != api.OK {
		r.size = 0
	}
	if h, n, e := head.Parse(b); h != r.head || n != r.size || e != r.whole {
		t.Errorf("Parse(%.500q) = %v, %d, %v, want %v, %d, %v", b, h, n, e, r.head, r.size, r.whole)
	}
	if l, e := head.Fields(b); !slices.Equal(l, r.fields) || e != r.lines {
		t.Errorf("Fields(%.500q) = %q, %v, want %q, %v", b, l, e, r.fields, r.lines)
	}
}

// sequence gives numbers below others, the same in each run.
func sequence() func(below int) int {
	state := uint64(1)
	return func(below int) int {
		state = state*6364136223846793005 + 1442695040888963407
		return int(state >> 33 % uint64(below))
	}
}

// P6.1, P6.2: of heads, each byte becomes each other one, goes, or comes twice.
func TestEachByteOfHeads(t *testing.T) {
	for _, one := range []string{
		okLine + fields("Content-Length: 12", "content-length:12", "Connection: x , Close"),
		okLine + fields("A-b:\tc d ", "Transfer-Encoding: Chunked\t", "Connection: keep-alive"),
		oldLine + fields("Connection: x,Keep-Alive\t, y", "Content-Length: 000000000000012"),
		"HTTP/1.1 404 \r\n" + fields("a:", "connection:"),
	} {
		whole := one + "5\r\nab"
		for i := range one {
			for c := range 256 {
				b := []byte(whole)
				b[i] = byte(c)
				checkReckoned(t, b)
				checkReckoned(t, []byte(one[:i]+string([]byte{byte(c)})+one[i:]))
			}
			checkReckoned(t, []byte(one[:i]+one[i+1:]))
			checkReckoned(t, []byte(one[:i]))
			checkReckoned(t, []byte(one[i:]))
		}
	}
}

// pieces are what heads are made of, and other bytes.
func pieces() []string {
	return []string{
		"a: b", "A-B:c ", "Content-Length: 5", "content-length:5 ", "Content-Length: 05", "Content-Length: 123456789012345", "Content-Length: 1234567890123456", "Transfer-Encoding: chunked", "transfer-encoding:\tCHUNKED", "Transfer-Encoding: gzip",
		"Connection: close", "Connection: keep-alive", "CONNECTION: x,\tKeep-Alive , CLOSE", "Connection: , ,x", "Connection:close,Close", "connection: Keep-Alive,", "\xc3\xa9: x", "x: \xff", "bad", ": x", " x: y", "\r", "\n", "\x00",
	}
}

// someHead is a head with fields that are some of the pieces, a few of its bytes perhaps others.
func someHead(next func(below int) int) []byte {
	firsts, parts := []string{okLine, okLine, okLine, oldLine, oldLine, "HTTP/1.1 503 \r\n", "HTTP/1.2 200 OK\r\n"}, pieces()
	b := []byte(firsts[next(len(firsts))])
	usual := 16 + next(len(parts)-15) // most have none of the pieces that may not be
	for range next(5) {
		b = append(b, parts[next(usual)]...)
		b = append(b, "\r\n"...)
	}
	if next(40) == 0 {
		b = append(b, strings.Repeat("f:\r\n", 60+next(6))...)
	}
	if next(40) == 0 {
		b = append(b, "f: "+strings.Repeat("v", 8192-len(b)-9+next(5))+"\r\n"...)
	}
	if next(10) > 0 {
		b = append(b, "\r\nmore"[:2+next(5)]...)
	}
	for range next(3) - 1 {
		b[next(len(b))] = byte(next(256))
	}
	return b
}

// P0.3, P6.1, P6.2
func TestSomeHeads(t *testing.T) {
	next, came := sequence(), make(map[api.Errno]int)
	for range 60000 {
		b := someHead(next)
		checkReckoned(t, b)
		if t.Failed() {
			return
		}
		_, n, e := head.Parse(b)
		if n > 0 || e != api.OK {
			came[e]++
		}
	}
	for _, e := range []api.Errno{api.OK, api.ErrStatus, api.ErrHeader, api.ErrLarge, api.ErrLength, api.ErrChunk} {
		if came[e] < 100 {
			t.Errorf("%v came %d times alone", e, came[e])
		}
	}
}

// P6.4: what a beginning of bytes shows, the whole shows.
func TestBeginnings(t *testing.T) {
	next := sequence()
	for range 1500 {
		b := someHead(next)
		if len(b) > 600 {
			continue
		}
		for size := range len(b) {
			h, n, e := head.Parse(b[:size])
			if n == 0 && e == api.OK {
				continue
			}
			if is, at, wrong := head.Parse(b); is != h || at != n || wrong != e {
				t.Fatalf("Parse(%q) = %v, %d, %v; of its first %d bytes %v, %d, %v", b, is, at, wrong, size, h, n, e)
			}
		}
	}
}

// P6.4
func TestBeginningsOfGreatHeads(t *testing.T) {
	for _, text := range []string{ofSize(8192), ofSize(8193), okLine + strings.Repeat("a:\r\n", 65) + strings.Repeat("x", 9000), strings.Repeat("x", 8190) + "\r\n", strings.Repeat("x", 8191) + "\r\n"} {
		b := []byte(text + "behind")
		for size := 8100; size <= len(b); size++ {
			checkReckoned(t, b[:size])
		}
	}
}
