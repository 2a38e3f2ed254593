package sched

import (
	"fmt"
	"testing"

	"odometer/api"
	"odometer/config"
	"odometer/net"
)

// A configuration that may be has as many connections as targets at least, and each target has one at most: there is always room. These tests take some away, and look at whom is dialled.

// cramped is a sched of a net of so much room, whose targets have turns at these times first, then each 20.
func cramped(t *testing.T, room int, firsts ...int64) *Sched {
	t.Helper()
	c := api.Config{Window: 100, Series: 10, Windows: 4, Queue: 4, Conns: len(firsts), Body: 100, Base: 1, Most: 10}
	for place, first := range firsts {
		x := api.Target{Job: "j", Host: fmt.Sprintf("h%d", place), Interval: 20, Timeout: 10}
		for i := 0; x.Path == "" || config.Offset(x) != first; i++ {
			x.Path = fmt.Sprintf("/%d", i)
		}
		c.Targets = append(c.Targets, x)
	}
	s, e := New(c)
	if e != api.OK {
		t.Fatal(e)
	}
	s.net = net.New(room)
	return s
}

// brief tells what is new: results, then connections and hosts.
func brief(s *Sched) string {
	text := ""
	for _, r := range s.Results() {
		text += fmt.Sprintf("%d at %d+%d %v, ", r.Target, r.At, r.Took, r.Err)
	}
	for id, host := range s.net.All() {
		text += fmt.Sprintf("%d to %s, ", id, host)
	}
	for _, l := range s.Links() {
		text += fmt.Sprintf("%v", l)
	}
	return text
}

// P15.1: where there is no room for one more connection, the scrape is refused.
func TestNoRoom(t *testing.T) {
	s := cramped(t, 0, 3)
	if e := s.Advance(2); e != api.OK || brief(s) != "" {
		t.Error(e)
	}
	for _, at := range []int64{3, 23, 43} { // its result is there then, and its last time does not come
		s.Advance(at)
		if is := brief(s); is != fmt.Sprintf("0 at %d+0 refused, ", at) {
			t.Errorf("at %d: %s", at, is)
		}
		if next, is := s.Next(); next != at+20 || !is {
			t.Errorf("at %d: next %d, %v", at, next, is)
		}
	}
	s = cramped(t, 1, 3, 2, 3)
	for _, x := range []struct {
		to   int64
		want string
	}{
		{2, "1 to h1, {1 1 true}"},
		{3, "0 at 3+0 refused, 2 at 3+0 refused, 1 to h1, {1 1 true}"},
		{12, "1 at 2+10 timeout, "},
		{22, "2 to h1, {2 1 true}"},
	} {
		s.Advance(x.to)
		if is := brief(s); is != x.want {
			t.Errorf("to %d: %s, want %s", x.to, is, x.want)
		}
	}
	if s.Reset(2) != api.ErrState || s.Refuse(2) != api.OK {
		t.Error("refused")
	}
	s.Advance(23) // there is room now, for one of two
	if is := brief(s); is != "1 at 22+0 refused, 2 at 23+0 refused, 3 to h0, {3 0 true}" {
		t.Error(is)
	}
}

// P15.1: a last time makes room for a turn of the same time, of whichever target.
func TestLastTimeMakesRoom(t *testing.T) {
	s := cramped(t, 1, 13, 3)
	s.Advance(13)
	if is := brief(s); is != "1 at 3+10 timeout, 2 to h0, {2 0 true}" {
		t.Error(is)
	}
	s.Advance(23)
	if is := brief(s); is != "0 at 13+10 timeout, 3 to h1, {3 1 true}" {
		t.Error(is)
	}
}

// A connection that was kept needs no more room, and no scrape over it is refused.
func TestKeptNeedsNoRoom(t *testing.T) {
	s := cramped(t, 1, 3, 4)
	s.Advance(3)
	s.Accept(1)
	s.Arrive(1, []byte("HTTP/1.1 200 OK\r\nContent-Length: 0\r\n\r\n"))
	s.Advance(24)
	if is := brief(s); is != "0 at 3+0 ok, 1 at 4+0 refused, 1 at 24+0 refused, 1 to h0, {1 0 true}" {
		t.Error(is)
	}
}

// P15.1: a connection is dialled to its target's host.
func TestHosts(t *testing.T) {
	s := cramped(t, 3, 4, 3, 2)
	s.Advance(4)
	if is := brief(s); is != "1 to h2, 2 to h1, 3 to h0, {3 0 true}{2 1 true}{1 2 true}" {
		t.Error(is)
	}
	c := s.Copy()
	c.Advance(24)
	if is := brief(c); is != "2 at 2+10 timeout, 1 at 3+10 timeout, 0 at 4+10 timeout, 4 to h2, 5 to h1, 6 to h0, {6 0 true}{5 1 true}{4 2 true}" {
		t.Error(is)
	}
}
