package scrape_test

import (
	"fmt"
	"slices"
	"strconv"
	"strings"
	"testing"

	"odometer/api"
	"odometer/scrape"
)

// ofText is what a scrape tells at 210, to which an answer of a text came then, of bodies of so many bytes at most.
func ofText(t *testing.T, text string, most int) (api.Result, *scrape.Scrape) {
	t.Helper()
	s, e := scrape.New(2, target(), most, begin)
	if e != api.OK {
		t.Fatal(e)
	}
	s.Open(205)
	s.Bytes([]byte(byLength(text)), 210)
	r, is := s.Result()
	if !is || r.Target != 2 || r.At != begin || r.Took != 10 {
		t.Errorf("%.100q: %.300s, %v", text, fmt.Sprint(r), is)
	}
	return r, s
}

// sample is one sample.
func sample(name string, value, time int64, counts bool) api.Sample {
	return api.Sample{Name: name, Value: value, Time: time, Counts: counts}
}

// checkSamples holds what a scrape of a text tells to the answer's samples; those of the target stand among them by their names.
func checkSamples(t *testing.T, text string, want ...api.Sample) {
	t.Helper()
	want = append(want, own(1, 10)...)
	slices.SortFunc(want, func(a, b api.Sample) int { return strings.Compare(a.Name, b.Name) })
	r, s := ofText(t, text, 1<<20)
	if r.Err != api.OK || !slices.Equal(r.Samples, want) || !s.Reuse() || s.State() != api.ScrapeOver {
		t.Errorf("%.300q: %v, %.1000s; want %.1000s", text, r.Err, fmt.Sprint(r.Samples), fmt.Sprint(want))
	}
}

// checkFails holds what a scrape of a text tells to an error.
func checkFails(t *testing.T, text string, want api.Errno) {
	t.Helper()
	r, s := ofText(t, text, 1<<20)
	if r.Err != want || !slices.Equal(r.Samples, own(0, 10)) || s.Reuse() || s.State() != api.ScrapeOver {
		t.Errorf("%.300q: %v, %.1000s; want %v", text, r.Err, fmt.Sprint(r.Samples), want)
	}
}

// P14.1, P14.2: an answer's samples

func TestSamples(t *testing.T) {
	checkSamples(t, "")
	checkSamples(t, "\n# a remark\n")
	checkSamples(t, "a 1\n", sample("a"+both, 1000000, begin, false))
	checkSamples(t, "a 1.5 42\nb -3 0\nc 1e-6 1125899906842624\n", // each at its own time
		sample("a"+both, 1500000, 42, false), sample("b"+both, -3000000, 0, false), sample("c"+both, 1, api.MaxTime, false))
	checkSamples(t, "# TYPE z counter\nz 3\nz{l=\"v\"} 4 7\n# TYPE g gauge\ng 5\n",
		sample("z"+both, 3000000, begin, true), sample(`z{instance="h",job="j",l="v"}`, 4000000, 7, true), sample("g"+both, 5000000, begin, false))
	checkSamples(t, "# TYPE h histogram\nh_bucket{le=\"1\"} 1\nh_bucket{le=\"+Inf\"} 2\nh_sum 3\nh_count 2\n",
		sample(`h_bucket{instance="h",job="j",le="1"}`, 1000000, begin, true), sample(`h_bucket{instance="h",job="j",le="+Inf"}`, 2000000, begin, true), sample("h_sum"+both, 3000000, begin, false), sample("h_count"+both, 2000000, begin, true))
	checkSamples(t, "a{b=\"c\"} 1\n", sample(`a{b="c",instance="h",job="j"}`, 1000000, begin, false))
	checkSamples(t, "a{instances=\"c\",jo=\"d\",Job=\"e\"} 1\n", sample(`a{Job="e",instance="h",instances="c",jo="d",job="j"}`, 1000000, begin, false))
	checkSamples(t, "a{b=\"\\\"job=\\n\"} 1\n", sample(`a{b="\"job=\n",instance="h",job="j"}`, 1000000, begin, false))
	checkSamples(t, "up{a=\"b\"} 1\nscrape_duration_milliseconds{z=\"y\"} 1 3\nUp 1\nupp 1\n", // none is what the scrape itself tells
		sample(`up{a="b",instance="h",job="j"}`, 1000000, begin, false), sample(api.Took+`{instance="h",job="j",z="y"}`, 1000000, 3, false), sample("Up"+both, 1000000, begin, false), sample("upp"+both, 1000000, begin, false))
	checkSamples(t, "a"+labels(14)+" 1\n", sample("a{instance=\"h\",job=\"j\","+labels(14)[1:], 1000000, begin, false))
}

// labels are so many labels, whose names stand behind the target's.
func labels(many int) string {
	var l []string
	for i := range many {
		l = append(l, fmt.Sprintf("l%02d=\"\"", i))
	}
	return "{" + strings.Join(l, ",") + "}"
}

// The order of names is another one, once they have labels.
func TestOrder(t *testing.T) {
	r, _ := ofText(t, "z 1\naa 1\na{z=\"\"} 1\na 1\na{b=\"\"} 1\na_b 1\nv 1\nt 1\nscrape 1\nuo 1\nupa 1\n", 1<<20)
	var names []string
	for _, x := range r.Samples {
		names = append(names, x.Name)
	}
	want := []string{
		"a_b" + both, "aa" + both, `a{b="",instance="h",job="j"}`, `a{instance="h",job="j",z=""}`, "a" + both,
		"scrape_duration_milliseconds" + both, "scrape" + both, "t" + both, "uo" + both, "upa" + both, "up" + both, "v" + both, "z" + both,
	}
	if r.Err != api.OK || !slices.Equal(names, want) {
		t.Errorf("%v, %q", r.Err, names)
	}
}

// A target's labels are in each name, of whatever bytes they are.
func TestLabels(t *testing.T) {
	for _, job := range []string{"", "j", `a"b\`, "\n", "\x00\xff", strings.Repeat("j", 1024), strings.Repeat("\"", 1024)} {
		for _, host := range []string{"h", "[::1]:9100", strings.Repeat("h", 255)} {
			x := target()
			x.Job, x.Host = job, host
			s, _ := scrape.New(0, x, 100, 7)
			s.Open(8)
			s.Bytes([]byte(byLength("a 1\nz 2 3\n")), 9)
			a, _ := scrape.Name("a", x)
			took, _ := scrape.Name(api.Took, x)
			up, _ := scrape.Name(api.Up, x)
			z, e := scrape.Name("z", x)
			want := []api.Sample{sample(a, 1000000, 7, false), sample(took, 2000000, 7, false), sample(up, 1000000, 7, false), sample(z, 2000000, 3, false)}
			if r, is := s.Result(); e != api.OK || !is || r.Err != api.OK || !slices.Equal(r.Samples, want) {
				t.Errorf("of the job %.50q: %.500s", job, fmt.Sprint(r))
			}
		}
	}
}

// P14.1, P14.3, P0.3: what fails

func TestFails(t *testing.T) {
	// by lines, families, and what does not hold together
	for text, want := range map[string]api.Errno{
		"a 1": api.ErrLine, "a\n": api.ErrLine, "a 1\nb": api.ErrLine, "a x\n": api.ErrNumber, "a NaN\n": api.ErrRange, "a 1 -1\n": api.ErrRange, "a{b=\"\",b=\"\"} 1\n": api.ErrLabel,
		"a 1\na 2\n": api.ErrTwice, "a 1\nb 1\na{c=\"\"} 1\n": api.ErrOrder, "# TYPE a histogram\na 1\n": api.ErrType,
		"# TYPE a counter\na -1\n": api.ErrRange, "# TYPE a histogram\na_bucket{le=\"1\"} 3\na_bucket{le=\"+Inf\"} 2\n": api.ErrBucket,
	} {
		checkFails(t, text, want)
		checkFails(t, "z 1\n"+text, want) // nor is a sample ahead told
	}
	// by names
	for _, text := range []string{
		"a{job=\"x\"} 1\n", "a{instance=\"x\"} 1\n", "a{instance=\"h\",job=\"j\"} 1\n", "a{job=\"\"} 1\n", "up{job=\"j\"} 1\n",
		"a" + labels(15) + " 1\n", "a" + labels(16) + " 1\n", "z 1\nb{job=\"x\"} 1\na 1\n",
	} {
		checkFails(t, text, api.ErrLabel)
	}
	for _, text := range []string{"up 1\n", "up 0 7\n", api.Took + " 1\n", "up{} 1\n", "a 1\n# TYPE up gauge\nup 1\nz 1\n", "up 1\n" + api.Took + " 1\n"} {
		checkFails(t, text, api.ErrTwice)
	}
}

// Of several errors the one that is named first is told.
func TestWhichFails(t *testing.T) {
	const twice, taken, sign, line = "up 1\n", "z{job=\"\"} 1\n", "# TYPE c counter\nc -1\n", "a 1 2 3\n"
	for text, want := range map[string]api.Errno{
		twice + taken: api.ErrLabel, taken + twice: api.ErrLabel, "a{job=\"\"} 1\n" + twice: api.ErrLabel,
		twice + sign: api.ErrRange, taken + sign: api.ErrRange, sign + taken: api.ErrRange,
		twice + line: api.ErrLine, taken + line: api.ErrLine, sign + line: api.ErrLine, twice + taken + sign + line: api.ErrLine,
		"a 1 -1\n" + line: api.ErrRange, line + "a 1 -1\n": api.ErrLine, twice + twice: api.ErrTwice, taken + taken: api.ErrTwice, "a 1\n" + taken + "a{b=\"\"} 1\n": api.ErrOrder,
	} {
		checkFails(t, text, want)
	}
	// a body that is too great is not looked at, nor is that of an answer of another status
	for raw, want := range map[string]api.Errno{
		"HTTP/1.1 200 OK\r\nContent-Length: 5\r\n\r\na 1":    api.ErrLarge,
		"HTTP/1.1 200 OK\r\n\r\nbad b":                       api.ErrLarge,
		"HTTP/1.1 404 No\r\nContent-Length: 4\r\n\r\nbad\n":  api.ErrCode,
		"HTTP/1.1 404 No\r\nContent-Length: 99\r\n\r\nbad\n": api.ErrCode,
		"HTTP/1.1 200 OK\r\nContent-Length: 4\r\n\r\nbad\n":  api.ErrLine,
		"HTTP/1.1 200 OK\r\nContent-Length: 4\r\n\r\nup 1":   api.ErrLine,
	} {
		s, _ := scrape.New(2, target(), 4, begin)
		s.Open(201)
		s.Bytes([]byte(raw), 210)
		if is := tell(s); is != failed(want, 10) {
			t.Errorf("%q: %v, want %v", raw, is, want)
		}
	}
}

// A body may be as great as is said, and its samples as many as may be.
func TestGreat(t *testing.T) {
	many := func(many int) (string, []api.Sample) {
		var text strings.Builder
		var l []api.Sample
		for i := range many {
			name := "a" + strconv.Itoa(10000+i)
			text.WriteString(name + " 1\n")
			l = append(l, sample(name+both, 1000000, begin, false))
		}
		return text.String(), l
	}
	text, want := many(api.MaxSamples)
	checkSamples(t, text, want...)
	text, _ = many(api.MaxSamples + 1)
	checkFails(t, text, api.ErrLarge)
	for most, want := range map[int]api.Errno{-1: api.ErrLarge, 0: api.ErrLarge, 3: api.ErrLarge, 4: api.OK, 5: api.OK} {
		if r, _ := ofText(t, "a 1\n", most); r.Err != want {
			t.Errorf("%d at most: %v", most, r.Err)
		}
	}
	if r, s := ofText(t, "", -1); r.Err != api.OK || !s.Reuse() {
		t.Errorf("no bytes: %v", r)
	}
}

// P14.2: may the connection be used again?

func TestReuse(t *testing.T) {
	for raw, want := range map[string]bool{
		byLength("a 1\n"): true, inChunks("a 1\n", 1): true, inChunks("a 1\n", 9): true,
		byLength("a 1\n") + "x": false, byLength("a 1\n") + byLength("a 1\n"): false, inChunks("a 1\n", 9) + "\r": false,
		"HTTP/1.1 200 OK\r\nConnection: close\r\nContent-Length: 4\r\n\r\na 1\n":      false,
		"HTTP/1.0 200 OK\r\nContent-Length: 4\r\n\r\na 1\n":                           false,
		"HTTP/1.0 200 OK\r\nConnection: keep-alive\r\nContent-Length: 4\r\n\r\na 1\n": true,
	} {
		s := reading(t)
		s.Bytes([]byte(raw), 210)
		if is := tell(s); is != good(10, want) {
			t.Errorf("%q: %v", raw, is)
		}
	}
	// of bytes that come when it is over, and of the connection's end then, it is told no more
	s := reading(t)
	s.Bytes([]byte(byLength("a 1\n")), 210)
	s.Bytes([]byte("x"), 211)
	s.End(212)
	if is := tell(s); is != good(10, true) {
		t.Error(is)
	}
	// not while it reads, nor of what failed, though the answer is whole
	s = reading(t)
	s.Bytes([]byte(byLength("a 1\n")[:20]), 210)
	if s.Reuse() {
		t.Error("while it reads")
	}
	for _, text := range []string{"a 1", "up 1\n", "a{job=\"\"} 1\n", "# TYPE a counter\na -1\n"} {
		if _, s := ofText(t, text, 100); s.Reuse() {
			t.Errorf("of %q", text)
		}
	}
}

// P14.3, P0.3: however bytes are cut, all is the same

// raws are answers of all kinds, and what is told of each, if the connection ends behind it.
func raws() map[string]told {
	return map[string]told{
		byLength("a 1\n"):      good(10, true),
		inChunks("a 1\n", 1):   good(10, true),
		inChunks("a 1\n", 3):   good(10, true),
		inChunks("a 1\n", 100): good(10, true),
		tillEnd("a 1\n"):       good(10, false),
		"HTTP/1.1 200 OK\r\nConnection: close\r\nContent-Length: 4\r\n\r\na 1\n": good(10, false),
		"HTTP/1.1 200\r\nA: b\r\n\r\n":                                           failed(api.ErrStatus, 10),
		"HTTP/1.1 200 OK\r\nA b\r\n\r\n":                                         failed(api.ErrHeader, 10),
		"HTTP/1.1 200 OK\r\nContent-Length: x\r\n\r\n":                           failed(api.ErrLength, 10),
		"HTTP/1.1 200 OK\r\nTransfer-Encoding: x\r\n\r\n":                        failed(api.ErrChunk, 10),
		"HTTP/1.1 204 No\r\n\r\n":                                                failed(api.ErrCode, 10),
		"HTTP/1.1 200 OK\r\nContent-Length: 101\r\n\r\na 1\n":                    failed(api.ErrLarge, 10),
		"HTTP/1.1 200 OK\r\nContent-Length: 5\r\n\r\na 1\n":                      failed(api.ErrEnd, 10),
		"HTTP/1.1 200 OK\r\nTransfer-Encoding: chunked\r\n\r\n4\r\na 1\nx":       failed(api.ErrChunk, 10),
		tillEnd(strings.Repeat("\n", 101)):                                       failed(api.ErrLarge, 10),
		byLength("a 1\nb 2\na{c=\"d\"} 3\n"):                                     failed(api.ErrOrder, 10),
		inChunks("# TYPE a counter\na -1\n", 7):                                  failed(api.ErrRange, 10),
		tillEnd("a{job=\"x\"} 1\n"):                                              failed(api.ErrLabel, 10),
		byLength("up 1\n"):                                                       failed(api.ErrTwice, 10),
	}
}

// pushed is a scrape to which parts came, and perhaps the end, all at 210.
func pushed(t *testing.T, end bool, parts ...string) told {
	t.Helper()
	s := reading(t)
	for _, part := range parts {
		s.Bytes([]byte(part), 210)
	}
	if end {
		s.End(210)
	}
	return tell(s)
}

func TestCuts(t *testing.T) {
	for raw, want := range raws() {
		if is := pushed(t, true, raw); is != want {
			t.Errorf("%q: %v, want %v", raw, is, want)
		}
		whole := pushed(t, false, raw)
		if whole != want && whole != going(api.ScrapeReading) {
			t.Errorf("%q: %v, want %v", raw, whole, want)
		}
		if is := pushed(t, false, strings.Split(raw, "")...); is != whole {
			t.Errorf("%q, byte by byte: %v, want %v", raw, is, whole)
		}
		if is := pushed(t, true, strings.Split(raw, "")...); is != want {
			t.Errorf("%q, byte by byte, and the end: %v, want %v", raw, is, want)
		}
		for i := range raw {
			for j := i; j <= len(raw); j += 3 {
				if is := pushed(t, false, raw[:i], raw[i:j], raw[j:]); is != whole {
					t.Errorf("%q, cut at %d and %d: %v, want %v", raw, i, j, is, whole)
				}
				if is := pushed(t, true, raw[:i], raw[i:j], raw[j:]); is != want {
					t.Errorf("%q, cut at %d and %d, and the end: %v, want %v", raw, i, j, is, want)
				}
			}
		}
	}
}

// Where the last byte comes behind the answer's end, in the same part, the connection may not be used again; in one more part it is not looked at.
func TestCutsBehindTheEnd(t *testing.T) {
	for _, raw := range []string{byLength("a 1\n"), inChunks("a 1\n", 3)} {
		more := raw + "HTTP/1.1"
		for i := range len(more) + 1 {
			if is := pushed(t, true, more[:i], more[i:]); is != good(10, i == len(raw)) {
				t.Errorf("%q, cut at %d: %v", more, i, is)
			}
		}
	}
}
