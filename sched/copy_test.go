package sched_test

import (
	"strings"
	"testing"
	"unsafe"

	"odometer/api"
	"odometer/config"
	"odometer/sched"
)

// pair are two targets whose turns come at one time.
func pair() []api.Target { return []api.Target{target("a", 3, 20, 10), target("b", 3, 20, 20)} }

// beginnings are ways to places at which a sched is copied.
func beginnings() map[string][]step {
	return map[string][]step{
		"new":           nil,
		"ahead":         {advance(2)},
		"dialling":      {advance(3)},
		"one open":      {advance(4), accept(1)},
		"in the head":   {advance(4), accept(1), accept(2), arrive(1, "HTTP/1.1 200 O"), arrive(2, "HTT")},
		"in the body":   {advance(4), accept(1), arrive(1, byLength("a 1\n")[:40])},
		"kept":          {advance(4), accept(1), arrive(1, byLength("a 1\n"))},
		"used again":    {advance(4), accept(1), arrive(1, byLength("a 1\n")), advance(23)},
		"with results":  {advance(5), refuse(1), refuse(2), advance(30)},
		"result at end": {advance(13)},
	}
}

// goings are ways on, of which not all steps are OK of each beginning.
func goings() [][]step {
	return [][]step{
		{advance(3), advance(50)},
		{advance(30), accept(3), arrive(3, byLength("a 1\n"))},
		{accept(1), accept(2), arrive(1, byLength("a 1\n")), end(2)},
		{arrive(1, "K\r\n\r\n"), arrive(1, "x\r\n")},
		{arrive(1, "K\r\nContent-Length: 0\r\n\r\n"), arrive(2, "P/1.1 404 No\r\n\r\n")},
		{arrive(1, "\n"), refuse(2)},
		{reset(1), reset(2), advance(23)},
		{end(1), refuse(2), advance(23), refuse(3), refuse(4)},
	}
}

// onward does steps, and answers their errors.
func onward(s *sched.Sched, steps []step) []api.Errno {
	var l []api.Errno
	for _, x := range steps {
		l = append(l, x.do(s))
	}
	return l
}

// P15.4: a copy goes on apart, whichever of both goes on, and as the other one would.
func TestCopies(t *testing.T) {
	for name, first := range beginnings() {
		for i, on := range goings() {
			whole := begun(t, pair()...) // this one is never copied till the end
			goOn(t, whole, first...)
			onward(whole, on)
			want := told(whole)
			s := begun(t, pair()...)
			goOn(t, s, first...)
			was := told(s)
			c, d := s.Copy(), s.Copy().Copy()
			if is := told(c); is != was || told(s) != was {
				t.Errorf("%s: a copy %s, want %s", name, is, was)
			}
			onward(c, on)
			c.Results()
			if told(s) != was || told(d) != was {
				t.Errorf("%s, %d: once a copy went on %s, %s; they were %s", name, i, told(s), told(d), was)
			}
			onward(s, on)
			if is := told(s); is != want {
				t.Errorf("%s, %d: %s, want %s", name, i, is, want)
			}
			s.Results()
			if is := told(d); is != was {
				t.Errorf("%s, %d: once the other one went on %s, it was %s", name, i, is, was)
			}
			onward(d, on)
			if is := told(d); is != want {
				t.Errorf("%s, %d: a copy's copy %s, want %s", name, i, is, want)
			}
		}
	}
}

// Results are the caller's own.
func TestResultsAreApart(t *testing.T) {
	s := begun(t, pair()...)
	goOn(t, s, advance(4), accept(1), arrive(1, byLength("a 1\n")), refuse(2))
	c, want := s.Copy(), told(s)
	one, other := s.Copy().Results(), s.Results()
	if len(one) != 2 || len(one[0].Samples) != 3 || len(other) != 2 || len(other[0].Samples) != 3 {
		t.Fatalf("%v, %v", one, other)
	}
	for i := range one {
		for j := range one[i].Samples {
			if unsafe.StringData(one[i].Samples[j].Name) == unsafe.StringData(other[i].Samples[j].Name) {
				t.Errorf("two results share %q", one[i].Samples[j].Name)
			}
			one[i].Samples[j] = api.Sample{Name: "x"}
			other[i].Samples[j] = api.Sample{Name: "y"}
		}
		_ = append(other[i].Samples[:0], make([]api.Sample, cap(other[i].Samples))...)
	}
	_ = append(other[:0], make([]api.Result, cap(other))...)
	if is := told(c); is != want {
		t.Errorf("%s, it was %s", is, want)
	}
	goOn(t, s, advance(23), refuse(3))
	if is := brief(s.Results()); is != "1 at 23+0 refused 2" {
		t.Error(is)
	}
	if brief(other) != "0 at 0+0 ok 0; 0 at 0+0 ok 0" {
		t.Errorf("what was answered became %s", brief(other))
	}
}

// So are links, and what was sent; and what arrives is not kept.
func TestBytesAreApart(t *testing.T) {
	s := begun(t, pair()...)
	goOn(t, s, advance(4), accept(1))
	was := told(s)
	b := s.Sent(1)
	copy(b, strings.Repeat("x", len(b)))
	_ = append(b[:0], make([]byte, cap(b))...)
	l := s.Links()
	l[0] = api.Link{Conn: 9}
	if is := told(s); is != was {
		t.Errorf("%s, it was %s", is, was)
	}
	for _, part := range []string{byLength("a 1\n")[:10], byLength("a 1\n")[10:39], byLength("a 1\n")[39:]} {
		b := append(make([]byte, 0, 200), part...)
		if e := s.Arrive(1, b); e != api.OK || string(b) != part {
			t.Errorf("%v, %q", e, b)
		}
		copy(b[:200], strings.Repeat("x", 200))
	}
	if is := brief(s.Results()); is != "0 at 3+1 ok 3" {
		t.Error(is)
	}
}

// Nor is the configuration.
func TestConfigIsNotKept(t *testing.T) {
	texts := []byte("ja/m0jb/m1ab")
	all := unsafe.String(&texts[0], len(texts))
	c := conf(api.Target{Job: all[:1], Host: all[1:2], Path: all[2:5], Interval: 10, Timeout: 10}, api.Target{Job: all[5:6], Host: all[6:7], Path: all[7:10], Interval: 10, Timeout: 10})
	c.By = []string{all[10:11], all[11:]}
	was, want := config.Copy(c), conf(api.Target{Job: "j", Host: "a", Path: "/m0", Interval: 10, Timeout: 10}, api.Target{Job: "j", Host: "b", Path: "/m1", Interval: 10, Timeout: 10})
	s, e := sched.New(c)
	if e != api.OK || !config.Same(c, was) {
		t.Fatal(e, c)
	}
	goOn(t, s, advance(10))
	copy(texts, "xxxxxxxxxxxx")
	c.Targets[0], c.Targets[1] = api.Target{}, api.Target{}
	o := begun(t, want.Targets...)
	goOn(t, o, advance(10))
	for _, x := range []*sched.Sched{s, o} {
		for range 20 {
			for _, l := range x.Links() {
				if x.State(l.Conn) == api.ConnDialling {
					x.Accept(l.Conn)
				}
				x.Arrive(l.Conn, []byte(byLength("a 1\n")))
			}
			goOn(t, x, advance(x.Now()+1))
		}
	}
	if a, b := told(s), told(o); a != b || !strings.Contains(a, `a{instance="b",job="j"}`) {
		t.Errorf("%s, want %s", a, b)
	}
}
