package sched_test

import (
	"fmt"
	"math"
	"strings"
	"testing"

	"odometer/api"
	"odometer/sched"
	"odometer/scrape"
)

// alone is the target of most of these tests: it has turns at 3, 23, 43.
func alone() api.Target { return target("a", 3, 20, 10) }

// onTheWay are the ways to each state that a connection 1 can be in.
func onTheWay() map[string][]step {
	return map[string][]step{
		"none":    {advance(2)},
		"dialled": {advance(5)},
		"open":    {advance(4), accept(1), arrive(1, "HTTP/1.1 "), advance(5)},
		"kept":    {advance(4), accept(1), arrive(1, byLength("a 1\n")), advance(5)},
		"closed":  {advance(4), accept(1), arrive(1, closing("a 1\n")), advance(5)},
	}
}

// P15.2

func TestEachDeedInEachState(t *testing.T) {
	for _, x := range []struct {
		way            string
		do             step
		want           api.Errno
		results, links string // of what is OK
		next           int64
	}{
		{"none", accept(1), api.ErrNone, "", "", 0},
		{"none", refuse(1), api.ErrNone, "", "", 0},
		{"none", reset(1), api.ErrNone, "", "", 0},
		{"none", end(1), api.ErrNone, "", "", 0},
		{"none", arrive(1, "x"), api.ErrNone, "", "", 0},
		{"none", arrive(1, ""), api.ErrNone, "", "", 0},
		{"dialled", accept(1), api.OK, "", "1 of 0 busy 2", 13},
		{"dialled", refuse(1), api.OK, "0 at 3+2 refused 2", "", 23},
		{"dialled", reset(1), api.ErrState, "", "", 0},
		{"dialled", end(1), api.ErrState, "", "", 0},
		{"dialled", arrive(1, "x"), api.ErrState, "", "", 0},
		{"dialled", arrive(1, ""), api.ErrState, "", "", 0},
		{"open", accept(1), api.ErrState, "", "", 0},
		{"open", refuse(1), api.ErrState, "", "", 0},
		{"open", reset(1), api.OK, "0 at 3+2 reset 2", "", 23},
		{"open", end(1), api.OK, "0 at 3+2 end 2", "", 23},
		{"open", arrive(1, "200 OK\r\n"), api.OK, "", "1 of 0 busy 2", 13},
		{"open", arrive(1, ""), api.OK, "", "1 of 0 busy 2", 13},
		{"open", arrive(1, "x\r\n"), api.OK, "0 at 3+2 status 2", "", 23},
		{"kept", accept(1), api.ErrState, "", "", 0},
		{"kept", refuse(1), api.ErrState, "", "", 0},
		{"kept", reset(1), api.OK, "", "", 23},
		{"kept", end(1), api.OK, "", "", 23},
		{"kept", arrive(1, "x"), api.OK, "", "", 23},
		{"kept", arrive(1, byLength("a 1\n")), api.OK, "", "", 23},
		{"kept", arrive(1, ""), api.OK, "", "", 23},
		{"closed", accept(1), api.ErrNone, "", "", 0},
		{"closed", refuse(1), api.ErrNone, "", "", 0},
		{"closed", reset(1), api.ErrNone, "", "", 0},
		{"closed", end(1), api.ErrNone, "", "", 0},
		{"closed", arrive(1, "x"), api.ErrNone, "", "", 0},
	} {
		s := begun(t, alone())
		goOn(t, s, onTheWay()[x.way]...)
		was := told(s)
		if e := x.do.do(s); e != x.want {
			t.Errorf("%s, %v: %v, want %v", x.way, x.do, e, x.want)
		}
		if x.want != api.OK {
			if is := told(s); is != was {
				t.Errorf("%s, %v, which is refused: %s, it was %s", x.way, x.do, is, was)
			}
			continue
		}
		if x.way == "kept" {
			s.Results()
		}
		check(t, fmt.Sprintf("%s, %v", x.way, x.do), s, x.results, x.links, x.next)
		if len(x.links) == 0 && (s.State(1) != api.ConnNone || len(s.Sent(1)) != 0) {
			t.Errorf("%s, %v: it is there still", x.way, x.do)
		}
		goOn(t, s, advance(23)) // whatever it was, the next turn comes
		if l := s.Links(); len(l) != 1 || l[0] != (api.Link{Conn: 2, Target: 0, Busy: true}) {
			t.Errorf("%s, %v: %v in the next turn", x.way, x.do, l)
		}
	}
}

func TestNoSuchConnection(t *testing.T) {
	for way, steps := range onTheWay() {
		s := begun(t, alone())
		goOn(t, s, steps...)
		was := told(s)
		for _, id := range []int{math.MinInt, -1, 0, 2, 3, api.MaxTargets, math.MaxInt} {
			for i, e := range []api.Errno{s.Accept(id), s.Refuse(id), s.Reset(id), s.End(id), s.Arrive(id, []byte("x")), s.Arrive(id, nil)} {
				if e != api.ErrNone {
					t.Errorf("%s, deed %d of %d: %v", way, i, id, e)
				}
			}
		}
		if is := told(s); is != was {
			t.Errorf("%s: %s, it was %s", way, is, was)
		}
	}
}

// What is done to a connection is told to its own target's scrape alone.
func TestWhoseItIs(t *testing.T) {
	three := []api.Target{target("a", 3, 20, 10), target("b", 2, 20, 10), target("c", 1, 20, 10)}
	s := begun(t, three...)
	goOn(t, s, advance(3), accept(2))
	check(t, "accepted", s, "", "3 of 0 busy 1; 2 of 1 busy 2; 1 of 2 busy 1", 11)
	if b := s.Sent(2); string(b) != ask(three[1]) || len(s.Sent(1)) != 0 || len(s.Sent(3)) != 0 {
		t.Errorf("sent %q", b)
	}
	goOn(t, s, refuse(1), advance(4), arrive(2, byLength("a 1\n")))
	check(t, "one refused, one answered", s, "2 at 1+2 refused 2; 1 at 2+2 ok 3", "3 of 0 busy 1; 2 of 1 kept 2", 13)
	goOn(t, s, accept(3), end(2), reset(3))
	check(t, "one ended, one reset", s, "0 at 3+1 reset 2", "", 21)
}

// P15.1, P15.2: a connection that is kept is used in the next turn.

func TestKept(t *testing.T) {
	x := alone()
	s := begun(t, x)
	goOn(t, s, advance(3), accept(1), advance(6), arrive(1, byLength("a 1\n")))
	check(t, "answered", s, "0 at 3+3 ok 3", "1 of 0 kept 2", 23)
	goOn(t, s, advance(22))
	if b := s.Sent(1); string(b) != ask(x) {
		t.Errorf("sent %q", b)
	}
	goOn(t, s, advance(23))
	check(t, "used again", s, "", "1 of 0 busy 2", 33)
	if b := s.Sent(1); string(b) != ask(x)+ask(x) {
		t.Errorf("sent %q", b)
	}
	if e := s.Accept(1); e != api.ErrState {
		t.Error(e)
	}
	goOn(t, s, advance(25), arrive(1, byLength("")))
	check(t, "answered again", s, "0 at 23+2 ok 2", "1 of 0 kept 2", 43)
	goOn(t, s, advance(53))
	check(t, "not answered", s, "0 at 43+10 timeout 2", "", 63)
	goOn(t, s, advance(63))
	check(t, "dialled", s, "", "2 of 0 busy 1", 73)
	if len(s.Sent(1)) != 0 || len(s.Sent(2)) != 0 {
		t.Errorf("sent %q, %q", s.Sent(1), s.Sent(2))
	}
	goOn(t, s, accept(2))
	if b := s.Sent(2); string(b) != ask(x) {
		t.Errorf("sent %q", b)
	}
}

// An answer, in one turn or in the next one over the same connection, may come cut anywhere.
func TestCutAnywhere(t *testing.T) {
	text := "# TYPE a counter\na{b=\"c\"} 1\n"
	chunks := "HTTP/1.1 200 OK\r\nTransfer-Encoding: chunked\r\n\r\n10\r\n" + text[:16] + "\r\nc\r\n" + text[16:] + "\r\n0\r\n\r\n"
	for _, x := range []struct{ answer, result, links string }{
		{byLength(text), "ok 3", "1 of 0 kept 2"},
		{chunks, "ok 3", "1 of 0 kept 2"},
		{closing(text), "ok 3", ""},
		{byLength("a x\n"), "number 2", ""},
		{byLength("a 1\na 2\n"), "twice 2", ""},
		{byLength("a 1"), "line 2", ""},
		{byLength(strings.Repeat("a", 101)), "large 2", ""},
		{"HTTP/1.1 404 No\r\n\r\n", "code 2", ""},
		{"HTTP/1.1 404\r\n", "status 2", ""},
	} {
		whole := begun(t, alone())
		goOn(t, whole, advance(3), accept(1), advance(4))
		for cut := range len(x.answer) {
			s := whole.Copy()
			goOn(t, s, arrive(1, x.answer[:cut]))
			if len(s.Copy().Results()) == 0 { // a great length is told by the head
				goOn(t, s, arrive(1, ""), advance(5), arrive(1, x.answer[cut:]))
				check(t, fmt.Sprintf("%q cut at %d", x.answer, cut), s, "0 at 3+2 "+x.result, x.links, 23)
			}
		}
		for i := range len(x.answer) {
			if whole.State(1) == api.ConnOpen {
				goOn(t, whole, arrive(1, x.answer[i:i+1]))
			}
		}
		check(t, fmt.Sprintf("%q byte by byte", x.answer), whole, "0 at 3+1 "+x.result, x.links, 23)
		if x.links == "" {
			continue
		}
		goOn(t, whole, advance(23))
		for i := range len(x.answer) {
			check(t, fmt.Sprintf("%q, %d bytes of the next one", x.answer, i), whole, "", "1 of 0 busy 2", 33)
			goOn(t, whole, arrive(1, x.answer[i:i+1]))
		}
		check(t, fmt.Sprintf("%q, the next one", x.answer), whole, "0 at 23+0 "+x.result, x.links, 43)
	}
}

// What becomes of a connection whose scrape is over.
func TestKeptOrClosed(t *testing.T) {
	for _, x := range []struct {
		steps          []step
		results, links string
	}{
		{[]step{arrive(1, byLength("a 1\n"))}, "0 at 3+1 ok 3", "1 of 0 kept 2"},
		{[]step{arrive(1, byLength(""))}, "0 at 3+1 ok 2", "1 of 0 kept 2"},
		{[]step{arrive(1, closing("a 1\n"))}, "0 at 3+1 ok 3", ""},
		{[]step{arrive(1, byLength("a 1\n")+"x")}, "0 at 3+1 ok 3", ""}, // something came behind it
		{[]step{arrive(1, byLength("a 1\n")), arrive(1, "x")}, "0 at 3+1 ok 3", ""},
		{[]step{arrive(1, byLength("a 1\n")), arrive(1, "")}, "0 at 3+1 ok 3", ""},
		{[]step{arrive(1, byLength("a 1\n")), end(1)}, "0 at 3+1 ok 3", ""},
		{[]step{arrive(1, byLength("a 1\n")), reset(1)}, "0 at 3+1 ok 3", ""},
		{[]step{arrive(1, tillEnd("a 1\n"))}, "", "1 of 0 busy 2"},
		{[]step{arrive(1, tillEnd("a 1\n")), end(1)}, "0 at 3+1 ok 3", ""},
		{[]step{arrive(1, tillEnd("a 1\n")), reset(1)}, "0 at 3+1 reset 2", ""},
		{[]step{arrive(1, tillEnd("a 1\n")), advance(13)}, "0 at 3+10 timeout 2", ""},
		{[]step{arrive(1, byLength("a 1\n")[:40]), end(1)}, "0 at 3+1 end 2", ""},
		{[]step{arrive(1, byLength("up{} x\n"))}, "0 at 3+1 number 2", ""},
		{[]step{end(1)}, "0 at 3+1 end 2", ""},
		{[]step{reset(1)}, "0 at 3+1 reset 2", ""},
		{[]step{advance(13)}, "0 at 3+10 timeout 2", ""},
		{[]step{advance(12), arrive(1, byLength("a 1\n"))}, "0 at 3+9 ok 3", "1 of 0 kept 2"}, // just in time
	} {
		s := begun(t, alone())
		goOn(t, s, advance(4), accept(1))
		goOn(t, s, x.steps...)
		next := int64(23)
		if x.results == "" {
			next = 13
		}
		check(t, fmt.Sprint(x.steps), s, x.results, x.links, next)
		goOn(t, s, advance(23))
		if l := s.Links(); len(l) != 1 || !l[0].Busy || (l[0].Conn == 1) != strings.HasSuffix(x.links, "kept 2") {
			t.Errorf("%v: %v in the next turn", x.steps, l)
		}
	}
}

// What a scrape tells is a result, to the last sample.
func TestWhatIsTold(t *testing.T) {
	x := alone()
	text := "# TYPE d counter\nd{e=\"f\"} 7\na 1\nb -2.5 9\n"
	s := begun(t, target("b", 4, 20, 20), x)
	goOn(t, s, advance(4), accept(1), advance(6), arrive(1, byLength(text)))
	one, _ := scrape.New(1, x, 100, 3)
	one.Open(4)
	one.Bytes([]byte(byLength(text)), 6)
	want, _ := one.Result()
	l := s.Results()
	if len(l) != 1 || fmt.Sprintf("%+v", l[0]) != fmt.Sprintf("%+v", want) || len(want.Samples) != 5 {
		t.Errorf("%+v, want %+v", l, want)
	}
}

// A body may have as many bytes as the configuration says, and no more.
func TestMostOfABody(t *testing.T) {
	for size, want := range map[int]string{100: "0 at 3+0 ok 2", 101: "0 at 3+0 large 2"} {
		s := begun(t, alone())
		goOn(t, s, advance(3), accept(1), arrive(1, byLength("#"+strings.Repeat("x", size-2)+"\n")))
		if is := brief(s.Results()); is != want {
			t.Errorf("%d: %s", size, is)
		}
	}
}

// P15.2: all calls of nil and of a zero Sched

func TestNone(t *testing.T) {
	for i, s := range []*sched.Sched{nil, {}} {
		for _, n := range []int{-1, 0, 1, math.MaxInt} {
			for j, e := range []api.Errno{s.Advance(int64(n)), s.Accept(n), s.Refuse(n), s.Reset(n), s.End(n), s.Arrive(n, []byte("x")), s.Arrive(n, nil)} {
				if e != api.ErrNil {
					t.Errorf("%d, call %d of %d: %v", i, j, n, e)
				}
			}
			if s.State(n) != api.ConnNone || len(s.Sent(n)) != 0 {
				t.Errorf("%d: there is something of %d", i, n)
			}
		}
		at, is := s.Next()
		if len(s.Results()) != 0 || at != 0 || is || s.Now() != 0 || len(s.Links()) != 0 || s.Copy() != nil {
			t.Errorf("%d: there is something", i)
		}
	}
}
