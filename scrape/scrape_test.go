package scrape_test

import (
	"fmt"
	"math"
	"slices"
	"strings"
	"testing"

	"odometer/api"
	"odometer/scrape"
)

const (
	begin = 200 // when most scrapes of these tests begin
	last  = 250
	ask   = "GET /m HTTP/1.1\r\nHost: h\r\nUser-Agent: odometer\r\nAccept: text/plain;version=0.0.4\r\nConnection: keep-alive\r\n\r\n"
	both  = `{instance="h",job="j"}`
)

// target is the target of most of these tests.
func target() api.Target {
	return api.Target{Job: "j", Host: "h", Path: "/m", Interval: 100, Timeout: 50}
}

// dialling is a scrape that dials, of bodies of 100 bytes at most.
func dialling(t *testing.T) *scrape.Scrape {
	t.Helper()
	s, e := scrape.New(2, target(), 100, begin)
	if e != api.OK {
		t.Fatal(e)
	}
	return s
}

// reading is a scrape that reads.
func reading(t *testing.T) *scrape.Scrape {
	t.Helper()
	s := dialling(t)
	if b := s.Open(begin); string(b) != ask {
		t.Fatalf("Open: %q", b)
	}
	return s
}

// told is what a scrape tells.
type told struct {
	state  api.ScrapeState
	last   int64
	result string
	is     bool
	reuse  bool
}

// tell is what a scrape tells.
func tell(s *scrape.Scrape) told {
	r, is := s.Result()
	return told{s.State(), s.Last(), fmt.Sprintf("%+v", r), is, s.Reuse()}
}

// going is what a scrape tells that is not over.
func going(state api.ScrapeState) told {
	return told{state: state, last: last, result: fmt.Sprintf("%+v", api.Result{})}
}

// over is what a scrape tells of a result.
func over(r api.Result, reuse bool) told {
	return told{api.ScrapeOver, last, fmt.Sprintf("%+v", r), true, reuse}
}

// own are the samples of the target, of most of these tests.
func own(up, took int64) []api.Sample {
	return []api.Sample{{Name: api.Took + both, Value: took * 1000000, Time: begin}, {Name: api.Up + both, Value: up * 1000000, Time: begin}}
}

// failed is what a scrape tells that failed.
func failed(e api.Errno, took int64) told {
	return over(api.Result{Target: 2, At: begin, Took: took, Err: e, Samples: own(0, took)}, false)
}

// good is what a scrape tells of the answer 'a 1'.
func good(took int64, reuse bool) told {
	l := append([]api.Sample{{Name: "a" + both, Value: 1000000, Time: begin}}, own(1, took)...)
	return over(api.Result{Target: 2, At: begin, Took: took, Samples: l}, reuse)
}

// comer is something that comes.
type comer struct {
	what string
	b    string
}

// come lets it come, and answers what Open does.
func (c comer) come(s *scrape.Scrape, now int64) string {
	switch c.what {
	case "Open":
		return string(s.Open(now))
	case "Refuse":
		s.Refuse(now)
	case "Reset":
		s.Reset(now)
	case "Bytes":
		s.Bytes([]byte(c.b), now)
	case "End":
		s.End(now)
	case "Tick":
		s.Tick(now)
	}
	return ""
}

// comers are one of each kind, and bytes of several.
func comers() []comer {
	return []comer{{"Open", ""}, {"Refuse", ""}, {"Reset", ""}, {"Bytes", ""}, {"Bytes", "HTTP"}, {"Bytes", byLength("a 1\n")}, {"Bytes", "x\r\n"}, {"End", ""}, {"Tick", ""}}
}

// byLength is an answer of a text, which tells its length.
func byLength(text string) string {
	return fmt.Sprintf("HTTP/1.1 200 OK\r\nContent-Length: %d\r\n\r\n%s", len(text), text)
}

// inChunks is an answer of a text, in chunks of so many bytes at most.
func inChunks(text string, size int) string {
	s := "HTTP/1.1 200 OK\r\nTransfer-Encoding: chunked\r\n\r\n"
	for part := range slices.Chunk([]byte(text), size) {
		s += fmt.Sprintf("%x\r\n%s\r\n", len(part), part)
	}
	return s + "0\r\n\r\n"
}

// tillEnd is an answer of a text, which the connection's end ends.
func tillEnd(text string) string { return "HTTP/1.1 200 OK\r\n\r\n" + text }

// P14.1: New

func TestNew(t *testing.T) {
	long := func(s string, size int) string { return s + strings.Repeat("a", size-len(s)) }
	for i, x := range []struct {
		change func(x *api.Target)
		at     int64
		want   api.Errno
	}{
		{func(x *api.Target) {}, 0, api.OK},
		{func(x *api.Target) {}, 1, api.OK},
		{func(x *api.Target) {}, api.MaxTime - 1, api.OK},
		{func(x *api.Target) {}, api.MaxTime, api.OK},
		{func(x *api.Target) {}, api.MaxTime + 1, api.ErrArg},
		{func(x *api.Target) {}, math.MaxInt64, api.ErrArg},
		{func(x *api.Target) {}, -1, api.ErrArg},
		{func(x *api.Target) {}, math.MinInt64, api.ErrArg},
		{func(x *api.Target) { x.Timeout = 1 }, 5, api.OK},
		{func(x *api.Target) { x.Timeout = 0 }, 5, api.ErrArg},
		{func(x *api.Target) { x.Timeout = -1 }, 5, api.ErrArg},
		{func(x *api.Target) { x.Timeout = math.MinInt64 }, 5, api.ErrArg},
		{func(x *api.Target) { x.Timeout = api.MaxInterval - 1 }, 5, api.OK},
		{func(x *api.Target) { x.Timeout = api.MaxInterval }, api.MaxTime, api.OK},
		{func(x *api.Target) { x.Timeout = api.MaxInterval + 1 }, 5, api.ErrArg},
		{func(x *api.Target) { x.Timeout = math.MaxInt64 }, 5, api.ErrArg},
		{func(x *api.Target) { x.Host = "" }, 5, api.ErrArg},
		{func(x *api.Target) { x.Host = "[::1]:9100" }, 5, api.OK},
		{func(x *api.Target) { x.Host = "a b" }, 5, api.ErrArg},
		{func(x *api.Target) { x.Host = "a/b" }, 5, api.ErrArg},
		{func(x *api.Target) { x.Host = "a\r\nb" }, 5, api.ErrArg},
		{func(x *api.Target) { x.Host = long("h", 255) }, 5, api.OK},
		{func(x *api.Target) { x.Host = long("h", 256) }, 5, api.ErrArg},
		{func(x *api.Target) { x.Path = "" }, 5, api.ErrArg},
		{func(x *api.Target) { x.Path = "/" }, 5, api.OK},
		{func(x *api.Target) { x.Path = "m" }, 5, api.ErrArg},
		{func(x *api.Target) { x.Path = "/m#" }, 5, api.ErrArg},
		{func(x *api.Target) { x.Path = "/m m" }, 5, api.ErrArg},
		{func(x *api.Target) { x.Path = long("/", 1024) }, 5, api.OK},
		{func(x *api.Target) { x.Path = long("/", 1025) }, 5, api.ErrArg},
		{func(x *api.Target) { x.Job = "" }, 5, api.OK}, // it makes a name
		{func(x *api.Target) { x.Job = "\x00\"\\\n\xff" }, 5, api.OK},
		{func(x *api.Target) { x.Job = long("j", 1024) }, 5, api.OK},
		{func(x *api.Target) { x.Job = long("j", 1025) }, 5, api.ErrArg},
		{func(x *api.Target) { x.Job = long("j", 1<<20) }, 5, api.ErrArg},
		{func(x *api.Target) { x.Interval = 0 }, 5, api.OK}, // it is not asked for
		{func(x *api.Target) { x.Interval = -1 }, 5, api.OK},
		{func(x *api.Target) { *x = api.Target{} }, 5, api.ErrArg},
		{func(x *api.Target) { x.Job, x.Host, x.Path, x.Timeout = long("j", 1025), "", "", 0 }, -1, api.ErrArg},
	} {
		for _, place := range []int{0, 15, -1, math.MaxInt} {
			for _, most := range []int{0, 1000, -1, math.MinInt, math.MaxInt} {
				y := target()
				x.change(&y)
				s, e := scrape.New(place, y, most, x.at)
				if e != x.want || (s == nil) != (e != api.OK) {
					t.Errorf("%d: %v, a scrape %v; want %v", i, e, s != nil, x.want)
				}
				if e != api.OK {
					continue
				}
				want := going(api.ScrapeDialling)
				want.last = x.at + y.Timeout
				if is := tell(s); is != want {
					t.Errorf("%d: %v", i, is)
				}
				s.Refuse(x.at)
				if r, is := s.Result(); !is || r.Target != place || r.At != x.at || r.Took != 0 || r.Err != api.ErrRefused {
					t.Errorf("%d: %v, %v", i, r, is)
				}
			}
		}
	}
}

// P14.1: Open

func TestOpen(t *testing.T) {
	s := dialling(t)
	if b := s.Open(210); string(b) != ask || tell(s) != going(api.ScrapeReading) {
		t.Errorf("%q, %v", b, tell(s))
	}
	if b := s.Open(211); len(b) != 0 || tell(s) != going(api.ScrapeReading) {
		t.Errorf("the second one: %q, %v", b, tell(s))
	}
	s.Bytes([]byte(byLength("a 1\n")), 212)
	if b := s.Open(213); len(b) != 0 || tell(s) != good(12, true) {
		t.Errorf("behind the end: %q, %v", b, tell(s))
	}
	x := target()
	x.Host, x.Path = "[::1]:80", "/a?b=c"
	s, _ = scrape.New(0, x, 10, 0)
	if b := s.Open(0); string(b) != strings.Replace(strings.Replace(ask, "/m", "/a?b=c", 1), "Host: h", "Host: [::1]:80", 1) {
		t.Errorf("%q", b)
	}
}

// P14.1: each cell of the chapter's table

func TestTable(t *testing.T) {
	inDial, inRead := going(api.ScrapeDialling), going(api.ScrapeReading)
	for _, x := range []struct {
		c        comer
		ofDial   told
		ofRead   told
		whenOpen string
	}{
		{comer{"Open", ""}, inRead, inRead, ask},
		{comer{"Refuse", ""}, failed(api.ErrRefused, 10), inRead, ""},
		{comer{"Reset", ""}, failed(api.ErrReset, 10), failed(api.ErrReset, 10), ""},
		{comer{"Bytes", ""}, inDial, inRead, ""},
		{comer{"Bytes", "HTTP/1.1 200 OK\r\n"}, inDial, inRead, ""},
		{comer{"Bytes", byLength("a 1\n")}, inDial, good(10, true), ""},
		{comer{"Bytes", byLength("a 1\n") + "x"}, inDial, good(10, false), ""},
		{comer{"Bytes", tillEnd("a 1\n")}, inDial, inRead, ""},
		{comer{"Bytes", "HTTP/2 200 OK\r\n"}, inDial, failed(api.ErrStatus, 10), ""},
		{comer{"End", ""}, failed(api.ErrEnd, 10), failed(api.ErrEnd, 10), ""},
		{comer{"Tick", ""}, inDial, inRead, ""},
	} {
		s := dialling(t)
		if b := x.c.come(s, 210); b != x.whenOpen || tell(s) != x.ofDial {
			t.Errorf("%v, while it dials: %q, %v; want %v", x.c, b, tell(s), x.ofDial)
		}
		s = reading(t)
		if b := x.c.come(s, 210); b != "" || tell(s) != x.ofRead {
			t.Errorf("%v, while it reads: %q, %v; want %v", x.c, b, tell(s), x.ofRead)
		}
	}
	s := dialling(t)
	s.Tick(last)
	if is := tell(s); is != failed(api.ErrTimeout, 50) {
		t.Error(is)
	}
	s = reading(t)
	s.Tick(last)
	if is := tell(s); is != failed(api.ErrTimeout, 50) {
		t.Error(is)
	}
}

// Bytes that came ahead of Open are none of the answer.
func TestBytesAheadOfOpen(t *testing.T) {
	for _, ahead := range []string{"x", "\r\n", "HTTP/1.1 404 No\r\n\r\n", byLength("b 1\n")} {
		s := dialling(t)
		s.Bytes([]byte(ahead), 201)
		if is := tell(s); is != going(api.ScrapeDialling) {
			t.Errorf("%q: %v", ahead, is)
		}
		if b := s.Open(202); string(b) != ask {
			t.Errorf("%q: %q", ahead, b)
		}
		s.Bytes([]byte(byLength("a 1\n")), 203)
		if is := tell(s); is != good(3, true) {
			t.Errorf("%q: %v", ahead, is)
		}
	}
}

// P14.1: End

func TestEnd(t *testing.T) {
	whole := byLength("a 1\n")
	for size := range len(whole) + 1 { // within the head, within the body, behind the answer
		s := reading(t)
		s.Bytes([]byte(whole[:size]), 205)
		s.End(210)
		want := failed(api.ErrEnd, 10)
		if size == len(whole) {
			want = good(5, true) // it was over ahead of the end
		}
		if is := tell(s); is != want {
			t.Errorf("%d bytes: %v, want %v", size, is, want)
		}
	}
	for _, x := range []struct {
		text string
		want told
	}{
		{tillEnd("a 1\n"), good(10, false)},
		{tillEnd("a 1"), failed(api.ErrLine, 10)},
		{tillEnd("")[:18], failed(api.ErrEnd, 10)},
		{tillEnd(""), over(api.Result{Target: 2, At: begin, Took: 10, Samples: own(1, 10)}, false)},
		{inChunks("a 1\n", 2)[:50], failed(api.ErrEnd, 10)},
		{strings.TrimSuffix(inChunks("a 1\n", 2), "\n"), failed(api.ErrEnd, 10)},
	} {
		s := reading(t)
		s.Bytes([]byte(x.text), 205)
		if is := tell(s); is != going(api.ScrapeReading) {
			t.Errorf("%q: %v", x.text, is)
		}
		s.End(210)
		if is := tell(s); is != x.want {
			t.Errorf("%q: %v, want %v", x.text, is, x.want)
		}
	}
}

// P14.1: what comes too late

func TestJustAheadOfTheLastTime(t *testing.T) {
	for _, begun := range []func(t *testing.T) *scrape.Scrape{dialling, reading} {
		s := begun(t)
		was := tell(s)
		s.Tick(last - 1)
		if is := tell(s); is != was {
			t.Errorf("%v, want %v", is, was)
		}
		for _, c := range comers() { // as at each other time
			early, late := begun(t), begun(t)
			c.come(early, begin)
			c.come(late, last-1)
			if early.State() != late.State() {
				t.Errorf("%v: %v, but %v", c, tell(early), tell(late))
			}
		}
	}
}

func TestTooLate(t *testing.T) {
	for _, begun := range []func(t *testing.T) *scrape.Scrape{dialling, reading} {
		for _, c := range comers() {
			for _, now := range []int64{last, last + 1, last + 1000, api.MaxTime, api.MaxTime + 1} {
				s := begun(t)
				b := c.come(s, now)
				want := failed(api.ErrTimeout, now-begin)
				if is := tell(s); now < 1<<40 && is != want || b != "" {
					t.Errorf("%v at %d: %q, %v; want %v", c, now, b, is, want)
				}
				if r, is := s.Result(); !is || r.Err != api.ErrTimeout || r.Took != now-begin || len(r.Samples) != 2 {
					t.Errorf("%v at %d: %v", c, now, r)
				}
			}
		}
	}
}

// How long it took, in millionths, is at most the greatest number.
func TestFarTooLate(t *testing.T) {
	const most = math.MaxInt64 / 1000000
	for now, want := range map[int64]int64{begin + most: most * 1000000, begin + most + 1: math.MaxInt64, math.MaxInt64: math.MaxInt64} {
		s := dialling(t)
		s.Tick(now)
		if r, _ := s.Result(); r.Took != now-begin || len(r.Samples) != 2 || r.Samples[0].Value != want || r.Samples[1].Value != 0 {
			t.Errorf("at %d: %v", now, r)
		}
	}
}

// The shortest scrape is over at its second time.
func TestTimeoutOfOne(t *testing.T) {
	x := target()
	x.Timeout = 1
	s, _ := scrape.New(2, x, 100, begin)
	s.Tick(begin)
	if b := s.Open(begin); string(b) != ask || s.Last() != begin+1 {
		t.Errorf("%q, %d", b, s.Last())
	}
	s.Bytes([]byte(byLength("a 1\n")), begin+1)
	if r, is := s.Result(); !is || r.Err != api.ErrTimeout || r.Took != 1 {
		t.Error(r, is)
	}
	s, _ = scrape.New(2, x, 100, begin)
	s.Open(begin)
	s.Bytes([]byte(byLength("a 1\n")), begin)
	if r, is := s.Result(); !is || r.Err != api.OK || r.Took != 0 {
		t.Error(r, is)
	}
}

// P14.1: times that go back

func TestTimesThatGoBack(t *testing.T) {
	for _, x := range []struct {
		times [3]int64 // of Open, of bytes, of the last ones
		took  int64
	}{
		{[3]int64{205, 210, 220}, 20}, {[3]int64{205, 220, 210}, 20}, {[3]int64{220, 205, 210}, 20}, {[3]int64{249, 0, math.MinInt64}, 49},
		{[3]int64{100, 50, 10}, 0}, {[3]int64{-1, -2, 199}, 0}, {[3]int64{math.MinInt64, 201, 0}, 1}, {[3]int64{0, 0, 200}, 0},
	} {
		for i, c := range comers() { // what is let be, or just another time, is as great a time
			s := dialling(t)
			s.Open(x.times[0])
			if c.what == "Open" || c.what == "Refuse" || c.what == "Tick" || c.b == "" && c.what == "Bytes" {
				c.come(s, x.times[1])
			} else {
				s.Tick(x.times[1])
			}
			s.Bytes([]byte(byLength("a 1\n")), x.times[2])
			if is := tell(s); is != good(x.took, true) {
				t.Errorf("%v, %d: %v", x.times, i, is)
			}
		}
	}
	s := dialling(t)
	s.Bytes([]byte("let be"), 240)
	s.Refuse(201)
	if is := tell(s); is != failed(api.ErrRefused, 40) {
		t.Error(is)
	}
}

// P14.2, P14.3: once it is over, all stays

func TestStays(t *testing.T) {
	ends := map[string]func(s *scrape.Scrape){
		"good":    func(s *scrape.Scrape) { s.Open(201); s.Bytes([]byte(byLength("a 1\n")), 210) },
		"rest":    func(s *scrape.Scrape) { s.Open(201); s.Bytes([]byte(byLength("a 1\n")+"x"), 210) },
		"ended":   func(s *scrape.Scrape) { s.Open(201); s.Bytes([]byte(tillEnd("a 1\n")), 205); s.End(210) },
		"wrong":   func(s *scrape.Scrape) { s.Open(201); s.Bytes([]byte(byLength("a 1")), 210) },
		"head":    func(s *scrape.Scrape) { s.Open(201); s.Bytes([]byte("x\r\n"), 210) },
		"early":   func(s *scrape.Scrape) { s.Open(201); s.End(210) },
		"refused": func(s *scrape.Scrape) { s.Refuse(210) },
		"reset":   func(s *scrape.Scrape) { s.Reset(210) },
		"none":    func(s *scrape.Scrape) { s.End(210) },
		"late":    func(s *scrape.Scrape) { s.Tick(260) },
	}
	wants := map[string]told{
		"good": good(10, true), "rest": good(10, false), "ended": good(10, false), "wrong": failed(api.ErrLine, 10), "head": failed(api.ErrStatus, 10),
		"early": failed(api.ErrEnd, 10), "refused": failed(api.ErrRefused, 10), "reset": failed(api.ErrReset, 10), "none": failed(api.ErrEnd, 10), "late": failed(api.ErrTimeout, 60),
	}
	for name, end := range ends {
		s := dialling(t)
		end(s)
		for range 2 {
			if is := tell(s); is != wants[name] {
				t.Errorf("%s: %v, want %v", name, is, wants[name])
			}
		}
		for _, c := range comers() {
			for _, now := range []int64{0, 209, 210, 211, last, 1000} {
				if b := c.come(s, now); b != "" || tell(s) != wants[name] {
					t.Errorf("%s, then %v at %d: %q, %v", name, c, now, b, tell(s))
				}
			}
		}
	}
}

// P14.1, P14.2: of none

func TestNone(t *testing.T) {
	for i, s := range []*scrape.Scrape{nil, {}} {
		want := told{state: api.ScrapeOver, result: fmt.Sprintf("%+v", api.Result{})}
		for _, c := range comers() {
			for _, now := range []int64{-1, 0, 5, math.MaxInt64} {
				if b := c.come(s, now); b != "" || tell(s) != want {
					t.Errorf("%d, %v at %d: %q, %v", i, c, now, b, tell(s))
				}
			}
		}
		if c := s.Copy(); c != nil {
			t.Errorf("%d: a copy %v", i, tell(c))
		}
	}
}

// P14.2: Name

func TestName(t *testing.T) {
	for _, x := range []struct {
		metric, job, host, want string
		e                       api.Errno
	}{
		{"up", "j", "h", `up{instance="h",job="j"}`, api.OK},
		{"a:b_9", "", "", `a:b_9{instance="",job=""}`, api.OK},
		{"_", `a"b`, "c\\d\n", `_{instance="c\\d\n",job="a\"b"}`, api.OK},
		{strings.Repeat("m", 200), "j", "h", strings.Repeat("m", 200) + both, api.OK},
		{"a", strings.Repeat("j", 1024), strings.Repeat("h", 1024), `a{instance="` + strings.Repeat("h", 1024) + `",job="` + strings.Repeat("j", 1024) + `"}`, api.OK},
		{"", "j", "h", "", api.ErrLabel}, {"9", "j", "h", "", api.ErrLabel}, {"a b", "j", "h", "", api.ErrLabel}, {"a\n", "j", "h", "", api.ErrLabel}, {"é", "j", "h", "", api.ErrLabel},
		{`a{job="j"}`, "j", "h", "", api.ErrLabel}, {"a{}", "j", "h", "", api.ErrLabel}, {`a{b="c"}`, "j", "h", "", api.ErrLabel}, // these are no metrics' names
		{strings.Repeat("m", 201), "j", "h", "", api.ErrLabel}, {"a", strings.Repeat("j", 1025), "h", "", api.ErrLabel}, {"a", "j", strings.Repeat("h", 1025), "", api.ErrLabel},
	} {
		for _, y := range []api.Target{target(), {}} { // nothing but the job and the host is asked for
			y.Job, y.Host = x.job, x.host
			if s, e := scrape.Name(x.metric, y); s != x.want || e != x.e {
				t.Errorf("Name(%.50q; %.50q, %.50q) = %.100q, %v", x.metric, x.job, x.host, s, e)
			}
		}
	}
}
