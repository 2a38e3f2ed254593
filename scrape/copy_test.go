package scrape_test

import (
	"strings"
	"testing"
	"unsafe"

	"odometer/api"
	"odometer/scrape"
)

// way is what comes to a scrape first, and two ways on.
type way struct {
	first, one, other []comer
	ofOne, ofOther    told // all that goes on comes at 210, and what is first at 205
}

// ways have ends for each place in which a scrape may be copied.
func ways() []way {
	open, refuse, reset, end := comer{"Open", ""}, comer{"Refuse", ""}, comer{"Reset", ""}, comer{"End", ""}
	b := func(s string) comer { return comer{"Bytes", s} }
	line, whole := "HTTP/1.1 200 OK\r\n", byLength("a 1\n")
	return []way{
		// while it dials
		{nil, nil, []comer{refuse}, going(api.ScrapeDialling), failed(api.ErrRefused, 10)},
		{nil, []comer{open}, nil, going(api.ScrapeReading), going(api.ScrapeDialling)},
		{nil, []comer{open, b(whole)}, []comer{reset}, good(10, true), failed(api.ErrReset, 10)},
		{[]comer{b(whole)}, []comer{open}, []comer{end}, going(api.ScrapeReading), failed(api.ErrEnd, 10)},
		// while it reads
		{[]comer{open}, []comer{b(whole)}, []comer{b("x\r\n")}, good(10, true), failed(api.ErrStatus, 10)},
		{[]comer{open}, nil, []comer{b(whole)}, going(api.ScrapeReading), good(10, true)},
		{[]comer{open, b(line)}, []comer{b("Content-Length: 4\r\n\r\na 1\n")}, []comer{b("\r\na 1\n"), end}, good(10, true), good(10, false)},
		{[]comer{open, b(line[:9])}, []comer{b("200 OK\r\nContent-Length: 4\r\n\r\na 1\n")}, []comer{b("404 No\r\n\r\n")}, good(10, true), failed(api.ErrCode, 10)},
		{[]comer{open, b(line + "\r\na")}, []comer{b(" 1\n"), end}, []comer{b(" x\n"), end}, good(10, false), failed(api.ErrNumber, 10)},
		{[]comer{open, b(line + "\r\na")}, []comer{b("{job=\"\"} 1\n"), end}, []comer{b(" 1\n")}, failed(api.ErrLabel, 10), going(api.ScrapeReading)},
		{[]comer{open, b(whole[:len(whole)-1])}, []comer{b("\n")}, []comer{b("\nx")}, good(10, true), good(10, false)},
		{[]comer{open, b(whole[:len(whole)-1])}, []comer{b(" ")}, []comer{end}, failed(api.ErrLine, 10), failed(api.ErrEnd, 10)},
		// when it is over
		{[]comer{open, b(whole)}, []comer{b("x"), end}, []comer{reset}, good(5, true), good(5, true)},
		{[]comer{open, b(whole + "x")}, nil, []comer{end}, good(5, false), good(5, false)},
		{[]comer{refuse}, []comer{open, b(whole)}, []comer{reset}, failed(api.ErrRefused, 5), failed(api.ErrRefused, 5)},
	}
}

// goOn lets all come at a time.
func goOn(s *scrape.Scrape, l []comer, now int64) {
	for _, c := range l {
		c.come(s, now)
	}
}

// P14.2: a copy goes on apart, whichever goes on first
func TestCopies(t *testing.T) {
	for i, w := range ways() {
		for _, copyFirst := range []bool{false, true} {
			s := dialling(t)
			goOn(s, w.first, 205)
			was := tell(s)
			c := s.Copy()
			if tell(s) != was || tell(c) != was {
				t.Errorf("way %d: %v, a copy %v; it was %v", i, tell(s), tell(c), was)
			}
			if copyFirst {
				goOn(c, w.other, 210)
				if is := tell(s); is != was {
					t.Errorf("way %d: %v, once its copy went on; it was %v", i, is, was)
				}
				goOn(s, w.one, 210)
			} else {
				goOn(s, w.one, 210)
				if is := tell(c); is != was {
					t.Errorf("way %d: the copy %v, once it went on; it was %v", i, is, was)
				}
				goOn(c, w.other, 210)
			}
			if one, other := tell(s), tell(c); one != w.ofOne || other != w.ofOther {
				t.Errorf("way %d: %v and %v; want %v and %v", i, one, other, w.ofOne, w.ofOther)
			}
		}
	}
}

// A copy has the greatest time so far, too, which is then each one's own.
func TestCopiesTimes(t *testing.T) {
	s := dialling(t)
	s.Tick(240)
	c := s.Copy()
	s.Tick(245)
	c.Refuse(201)
	s.Refuse(201)
	if one, other := tell(s), tell(c); one != failed(api.ErrRefused, 45) || other != failed(api.ErrRefused, 40) {
		t.Errorf("%v and %v", one, other)
	}
}

// Copies that were made at each byte, and copies of these, go on as it would.
func TestCopiesOfCopies(t *testing.T) {
	for raw, want := range raws() {
		s := reading(t)
		var l []*scrape.Scrape
		for i := range len(raw) {
			l = append(l, s)
			s = s.Copy().Copy()
			s.Bytes([]byte(raw[i:i+1]), 210)
		}
		s.End(210)
		if is := tell(s); is != want {
			t.Errorf("%q: %v, want %v", raw, is, want)
		}
		for i, s := range l {
			s.Bytes([]byte(raw[i:]), 210)
			s.End(210)
			if is := tell(s); is != want {
				t.Errorf("%q, from byte %d: %v, want %v", raw, i, is, want)
			}
		}
	}
}

// What is handed in is not kept, and what is answered is new memory.

func TestBytesAreNotKept(t *testing.T) {
	s := reading(t)
	for _, part := range []string{"HTTP/1.1 200 OK\r\nConten", "t-Length: 4\r\n\r\na ", "1\n"} {
		b := append(make([]byte, 0, 100), part...)
		s.Bytes(b, 210)
		if string(b) != part {
			t.Errorf("%q is now %q", part, b)
		}
		for i := range b[:100] {
			b[:100][i] = 'x'
		}
	}
	if is := tell(s); is != good(10, true) {
		t.Error(is)
	}
}

func TestRequestsAreApart(t *testing.T) {
	s := dialling(t)
	c := s.Copy()
	b := s.Open(201)
	for i := range b {
		b[i] = 'x'
	}
	_ = append(b[:0], make([]byte, cap(b))...)
	if b := c.Open(201); string(b) != ask {
		t.Errorf("%q", b)
	}
	b = dialling(t).Open(201)
	if string(b) != ask {
		t.Errorf("%q", b)
	}
}

func TestResultsAreApart(t *testing.T) {
	s := reading(t)
	s.Bytes([]byte(byLength("a 1\n")), 210)
	c := s.Copy()
	for range 3 {
		r, _ := s.Result()
		for i := range r.Samples {
			r.Samples[i] = api.Sample{Name: "x", Value: 5}
		}
		_ = append(r.Samples, api.Sample{Name: "y"})
		_ = append(r.Samples[:0], make([]api.Sample, cap(r.Samples))...)
		if one, other := tell(s), tell(c); one != good(10, true) || other != good(10, true) {
			t.Errorf("%v and %v", one, other)
		}
	}
	one, _ := s.Result()
	for _, x := range []*scrape.Scrape{s, c} {
		other, _ := x.Result()
		for i := range one.Samples {
			if unsafe.StringData(one.Samples[i].Name) == unsafe.StringData(other.Samples[i].Name) {
				t.Errorf("two results share %q", one.Samples[i].Name)
			}
		}
	}
}

// A target's texts are not kept, either.
func TestTargetsAreNotKept(t *testing.T) {
	texts := []byte("jh/m")
	all := unsafe.String(&texts[0], len(texts))
	x := target()
	x.Job, x.Host, x.Path = all[:1], all[1:2], all[2:]
	s, e := scrape.New(2, x, 100, begin)
	if e != api.OK {
		t.Fatal(e)
	}
	name, _ := scrape.Name("a", x)
	copy(texts, "xxxx")
	if name != "a"+both {
		t.Errorf("%q", name)
	}
	if b := s.Open(201); string(b) != ask {
		t.Errorf("%q", b)
	}
	s.Bytes([]byte(byLength("a 1\n")), 210)
	if is := tell(s); is != good(10, true) {
		t.Error(is)
	}
	if r, _ := s.Result(); strings.Contains(r.Samples[0].Name, "x") {
		t.Errorf("%v", r.Samples)
	}
}
