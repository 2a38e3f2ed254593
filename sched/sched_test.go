package sched_test

import (
	"fmt"
	"math"
	"strings"
	"testing"

	"odometer/api"
	"odometer/config"
	"odometer/sched"
)

// target is one of a host, whose turns have this offset.
func target(host string, offset, interval, timeout int64) api.Target {
	x := api.Target{Job: "j", Host: host, Interval: interval, Timeout: timeout}
	for i := 0; ; i++ {
		x.Path = fmt.Sprintf("/%d", i)
		if config.Offset(x) == offset {
			return x
		}
	}
}

// conf is a configuration of some targets, for no more connections than there are of them.
func conf(targets ...api.Target) api.Config {
	return api.Config{Targets: targets, Window: 100, Series: 10, Windows: 4, Queue: 4, Conns: len(targets), Body: 100, Base: 1, Most: 10}
}

// begun is a new sched.
func begun(t *testing.T, targets ...api.Target) *sched.Sched {
	t.Helper()
	s, e := sched.New(conf(targets...))
	if e != api.OK {
		t.Fatal(e)
	}
	return s
}

// step is what is done to a sched: what, up to when or to which connection, and what arrives.
type step struct {
	what string
	n    int64
	b    string
}

func (x step) do(s *sched.Sched) api.Errno {
	switch x.what {
	case "advance":
		return s.Advance(x.n)
	case "accept":
		return s.Accept(int(x.n))
	case "refuse":
		return s.Refuse(int(x.n))
	case "reset":
		return s.Reset(int(x.n))
	case "end":
		return s.End(int(x.n))
	case "arrive":
		return s.Arrive(int(x.n), []byte(x.b))
	}
	panic(x.what)
}

// Steps that come to OK.

func advance(to int64) step { return step{"advance", to, ""} }

func accept(id int64) step { return step{"accept", id, ""} }

func refuse(id int64) step { return step{"refuse", id, ""} }

func reset(id int64) step { return step{"reset", id, ""} }

func end(id int64) step { return step{"end", id, ""} }

func arrive(id int64, b string) step { return step{"arrive", id, b} }

// goOn does steps, each of which is OK.
func goOn(t *testing.T, s *sched.Sched, steps ...step) {
	t.Helper()
	for i, x := range steps {
		if e := x.do(s); e != api.OK {
			t.Fatalf("step %d, %v: %v", i, x, e)
		}
	}
}

// brief tells results: whose, when, how long, by which error, how many samples.
func brief(l []api.Result) string {
	text := ""
	for _, r := range l {
		text += fmt.Sprintf("%d at %d+%d %v %d; ", r.Target, r.At, r.Took, r.Err, len(r.Samples))
	}
	return strings.TrimSuffix(text, "; ")
}

// linked tells connections: their numbers, whose, busy or kept, their states.
func linked(s *sched.Sched) string {
	text := ""
	for _, l := range s.Links() {
		how := "kept"
		if l.Busy {
			how = "busy"
		}
		text += fmt.Sprintf("%d of %d %s %d; ", l.Conn, l.Target, how, s.State(l.Conn))
	}
	return strings.TrimSuffix(text, "; ")
}

// told is all that a sched tells, of connections up to some number, and the results too, which it keeps.
func told(s *sched.Sched) string {
	at, is := s.Next()
	text := fmt.Sprintf("at %d, next %d %v, %+v, %+v", s.Now(), at, is, s.Links(), s.Copy().Results())
	for id := -1; id < 8; id++ {
		text += fmt.Sprintf("; %d: %d %q", id, s.State(id), s.Sent(id))
	}
	return text
}

// check holds what it tells against what it has to: results (which it tells no more), links, and when something comes next (below 0: nothing does).
func check(t *testing.T, what string, s *sched.Sched, results, links string, next int64) {
	t.Helper()
	if is := brief(s.Results()); is != results {
		t.Errorf("%s: results %q, want %q", what, is, results)
	}
	if l := s.Results(); len(l) != 0 {
		t.Errorf("%s: results once more: %v", what, l)
	}
	if is := linked(s); is != links {
		t.Errorf("%s: links %q, want %q", what, is, links)
	}
	if at, is := s.Next(); is != (next >= 0) || is && at != next || !is && at != 0 {
		t.Errorf("%s: next %d, %v, want %d", what, at, is, next)
	}
}

// byLength is an answer of a text.
func byLength(text string) string {
	return fmt.Sprintf("HTTP/1.1 200 OK\r\nContent-Length: %d\r\n\r\n%s", len(text), text)
}

// closing is an answer behind which the connection is closed.
func closing(text string) string {
	return fmt.Sprintf("HTTP/1.1 200 OK\r\nConnection: close\r\nContent-Length: %d\r\n\r\n%s", len(text), text)
}

// tillEnd is an answer of a text, which the connection's end ends.
func tillEnd(text string) string { return "HTTP/1.1 200 OK\r\n\r\n" + text }

// ask is what a target is asked.
func ask(x api.Target) string {
	return "GET " + x.Path + " HTTP/1.1\r\nHost: " + x.Host + "\r\nUser-Agent: odometer\r\nAccept: text/plain;version=0.0.4\r\nConnection: keep-alive\r\n\r\n"
}

// P15.1: New

func TestNew(t *testing.T) {
	two := func() api.Config { return conf(target("a", 3, 10, 4), target("b", 5, 20, 20)) }
	long := func(s string, size int) string { return s + strings.Repeat("a", size-len(s)) }
	for i, x := range []struct {
		change func(c *api.Config)
		want   api.Errno
	}{
		{func(c *api.Config) {}, api.OK},
		{func(c *api.Config) { c.Targets = nil }, api.ErrArg},
		{func(c *api.Config) { c.Targets = []api.Target{} }, api.ErrArg},
		{func(c *api.Config) { c.Targets[1].Host = "a" }, api.ErrArg},
		{func(c *api.Config) { c.Targets[1].Host, c.Targets[1].Job = "a", "k" }, api.OK},
		{func(c *api.Config) { c.Targets[0].Job = "" }, api.ErrArg},
		{func(c *api.Config) { c.Targets[0].Job = long("j", api.MaxValue) }, api.OK},
		{func(c *api.Config) { c.Targets[0].Job = long("j", api.MaxValue+1) }, api.ErrArg},
		{func(c *api.Config) { c.Targets[1].Host = "" }, api.ErrArg},
		{func(c *api.Config) { c.Targets[1].Host = "a b" }, api.ErrArg},
		{func(c *api.Config) { c.Targets[1].Path = "a" }, api.ErrArg},
		{func(c *api.Config) { c.Targets[1].Path = "" }, api.ErrArg},
		{func(c *api.Config) { c.Targets[0].Interval = 0 }, api.ErrArg},
		{func(c *api.Config) { c.Targets[0].Interval = api.MaxInterval + 1 }, api.ErrArg},
		{func(c *api.Config) { c.Targets[0].Timeout = 0 }, api.ErrArg},
		{func(c *api.Config) { c.Targets[0].Timeout = 11 }, api.ErrArg},
		{func(c *api.Config) { c.Window = 0 }, api.ErrArg},
		{func(c *api.Config) { c.Lateness = -1 }, api.ErrArg},
		{func(c *api.Config) { c.Series = 0 }, api.ErrArg},
		{func(c *api.Config) { c.Series = api.MaxSeries + 1 }, api.ErrArg},
		{func(c *api.Config) { c.Windows = 0 }, api.ErrArg},
		{func(c *api.Config) { c.Queue = 0 }, api.ErrArg},
		{func(c *api.Config) { c.Conns = 1 }, api.ErrArg},
		{func(c *api.Config) { c.Conns = api.MaxConns }, api.OK},
		{func(c *api.Config) { c.Conns = api.MaxConns + 1 }, api.ErrArg},
		{func(c *api.Config) { c.Body = 0 }, api.ErrArg},
		{func(c *api.Config) { c.Body = api.MaxBody + 1 }, api.ErrArg},
		{func(c *api.Config) { c.Base = 0 }, api.ErrArg},
		{func(c *api.Config) { c.Base = 11 }, api.ErrArg},
		{func(c *api.Config) { c.Most = api.MaxInterval + 1 }, api.ErrArg},
		{func(c *api.Config) { c.By = []string{"a", "b"} }, api.OK},
		{func(c *api.Config) { c.By = []string{"b", "a"} }, api.ErrLabel},
		{func(c *api.Config) { c.By = []string{"a", "a"} }, api.ErrLabel},
		{func(c *api.Config) { c.By = []string{"a-b"} }, api.ErrLabel},
		{func(c *api.Config) { c.By, c.Body = []string{"b", "a"}, 0 }, api.ErrArg},
		{func(c *api.Config) { *c = api.Config{} }, api.ErrArg},
	} {
		c := two()
		x.change(&c)
		s, e := sched.New(c)
		if e != x.want || (s == nil) != (e != api.OK) {
			t.Errorf("%d: %v, a sched %v; want %v", i, e, s != nil, x.want)
		}
		if e == api.OK {
			check(t, fmt.Sprint(i), s, "", "", min(config.Due(c.Targets[0], 0), config.Due(c.Targets[1], 0)))
		}
	}
}

func TestMostTargets(t *testing.T) {
	var l []api.Target
	for i := range api.MaxTargets + 1 {
		l = append(l, target(fmt.Sprintf("h%d", i), 0, 10, 10))
	}
	if s, e := sched.New(conf(l...)); s != nil || e != api.ErrArg {
		t.Errorf("%v, a sched %v", e, s != nil)
	}
	s := begun(t, l[:api.MaxTargets]...)
	for turn := range int64(3) { // at each time all last times, then all turns, by rising places
		goOn(t, s, advance(10*turn))
		results, links := "", ""
		for place := range api.MaxTargets {
			results += fmt.Sprintf("%d at %d+10 timeout 2; ", place, 10*turn-10)
			links += fmt.Sprintf("%d of %d busy 1; ", int(turn)*api.MaxTargets+place+1, place)
		}
		if turn == 0 {
			results = ""
		}
		check(t, fmt.Sprint(turn), s, strings.TrimSuffix(results, "; "), strings.TrimSuffix(links, "; "), 10*turn+10)
	}
}

// P15.1: Advance

func TestExample(t *testing.T) {
	s := begun(t, target("a", 7, 50, 20))
	goOn(t, s, advance(100))
	check(t, "at 100", s, "0 at 7+20 timeout 2; 0 at 57+20 timeout 2", "", 107)
	s = begun(t, target("a", 7, 50, 20))
	for _, x := range []struct {
		to             int64
		results, links string
		next           int64
	}{
		{0, "", "", 7}, {6, "", "", 7}, {7, "", "1 of 0 busy 1", 27}, {26, "", "1 of 0 busy 1", 27}, {27, "0 at 7+20 timeout 2", "", 57},
		{56, "", "", 57}, {76, "", "2 of 0 busy 1", 77}, {107, "0 at 57+20 timeout 2", "3 of 0 busy 1", 127},
	} {
		goOn(t, s, advance(x.to))
		check(t, fmt.Sprint(x), s, x.results, x.links, x.next)
		if s.Now() != x.to {
			t.Errorf("%v: it is %d", x, s.Now())
		}
	}
}

// Turns at 0 come by the first Advance, up to 0 or beyond it, and not again.
func TestTurnsAtNought(t *testing.T) {
	both := []api.Target{target("a", 0, 10, 4), target("b", 0, 20, 20)}
	s := begun(t, both...)
	check(t, "new", s, "", "", 0)
	if e := s.Advance(-1); e != api.ErrArg {
		t.Error(e)
	}
	check(t, "refused", s, "", "", 0)
	for range 3 {
		goOn(t, s, advance(0))
		check(t, "at 0", s, "", "1 of 0 busy 1; 2 of 1 busy 1", 4)
	}
	goOn(t, s, advance(4))
	check(t, "at 4", s, "0 at 0+4 timeout 2", "2 of 1 busy 1", 10)
	s = begun(t, both...)
	goOn(t, s, advance(12))
	check(t, "at 12", s, "0 at 0+4 timeout 2", "3 of 0 busy 1; 2 of 1 busy 1", 14)
}

func TestAdvanceRefused(t *testing.T) {
	s := begun(t, target("a", 3, 10, 4), target("b", 5, 20, 20))
	for _, now := range []int64{0, 2, 3, 5, 8, 25} {
		goOn(t, s, advance(now))
		was := told(s)
		for _, to := range []int64{now - 1, -1, math.MinInt64, api.MaxTime + 1, math.MaxInt64} {
			if e := s.Advance(to); e != api.ErrArg || told(s) != was {
				t.Errorf("at %d, to %d: %v, %s", now, to, e, told(s))
			}
		}
		if e := s.Advance(now); e != api.OK || told(s) != was {
			t.Errorf("to %d once more: %v, %s", now, e, told(s))
		}
	}
}

// A last time comes ahead of a turn of the same time: the same target's, whose timeout is its interval, and others'.
func TestLastTimesAheadOfTurns(t *testing.T) {
	s := begun(t, target("a", 3, 10, 10))
	goOn(t, s, advance(3))
	check(t, "at 3", s, "", "1 of 0 busy 1", 13)
	goOn(t, s, advance(13))
	check(t, "at 13", s, "0 at 3+10 timeout 2", "2 of 0 busy 1", 23)
	goOn(t, s, accept(2), arrive(2, "HTTP/1.1 2"), advance(23))
	check(t, "at 23", s, "0 at 13+10 timeout 2", "3 of 0 busy 1", 33)
	if s.State(1) != api.ConnNone || s.State(2) != api.ConnNone {
		t.Errorf("%d, %d", s.State(1), s.State(2))
	}
	s = begun(t, target("a", 6, 20, 10), target("b", 2, 20, 4), target("c", 2, 20, 4))
	goOn(t, s, advance(6))
	check(t, "of others", s, "1 at 2+4 timeout 2; 2 at 2+4 timeout 2", "3 of 0 busy 1", 16)
}

// Of one kind, at one time, targets come by rising places, whenever their scrapes began.
func TestPlacesRise(t *testing.T) {
	s := begun(t, target("a", 5, 20, 5), target("b", 4, 20, 6), target("c", 3, 20, 7), target("d", 5, 20, 5))
	goOn(t, s, advance(5))
	check(t, "turns", s, "", "3 of 0 busy 1; 2 of 1 busy 1; 1 of 2 busy 1; 4 of 3 busy 1", 10)
	goOn(t, s, advance(10))
	check(t, "last times", s, "0 at 5+5 timeout 2; 1 at 4+6 timeout 2; 2 at 3+7 timeout 2; 3 at 5+5 timeout 2", "", 23)
}

// What comes on the way comes the same, by one long Advance or by many short ones.
func TestOneWayOrMany(t *testing.T) {
	for _, by := range []int64{1, 2, 3, 7, 30, 99} {
		one := begun(t, target("a", 3, 10, 10), target("b", 5, 7, 2), target("c", 0, 4, 1))
		goOn(t, one, advance(5), accept(2), accept(4), arrive(4, byLength("a 1\n")))
		many := one.Copy()
		for to := many.Now(); to < 300; to += by {
			goOn(t, many, advance(to))
		}
		goOn(t, one, advance(300))
		goOn(t, many, advance(300))
		if a, b := told(one), told(many); a != b {
			t.Errorf("by %d: %s, want %s", by, b, a)
		}
		if a, b := linked(one), linked(many); a != b || a == "" {
			t.Errorf("by %d: %s, want %s", by, b, a)
		}
	}
}

// P15.1, P15.4: at the end of all times

func TestMaxTime(t *testing.T) {
	t.Parallel() // it has two million turns
	const whole, turns = api.MaxInterval, api.MaxTime / api.MaxInterval
	a := api.Target{Job: "j", Host: "a", Path: "/h8eskh", Interval: whole, Timeout: 1} // its last turn is at MaxTime, the last time then would be beyond
	b := api.Target{Job: "j", Host: "b", Path: "/", Interval: whole}
	b.Timeout = whole - config.Offset(b) // its last one is at MaxTime
	if config.Offset(a) != 0 || config.Offset(b) == 0 {
		t.Fatal(config.Offset(a), config.Offset(b))
	}
	s := begun(t, a, b)
	goOn(t, s, advance(api.MaxTime-1))
	var many [2]int
	for _, r := range s.Results() {
		many[r.Target]++
	}
	if many != [2]int{turns, turns - 1} {
		t.Errorf("%v results", many)
	}
	const id = 2*turns + 1
	check(t, "ahead of it", s, "", fmt.Sprintf("%d of 1 busy 1", id-1), api.MaxTime)
	goOn(t, s, advance(api.MaxTime))
	link := fmt.Sprintf("%d of 0 busy 1", id)
	check(t, "at it", s, fmt.Sprintf("1 at %d+%d timeout 2", api.MaxTime-b.Timeout, b.Timeout), link, -1)
	goOn(t, s, advance(api.MaxTime))
	if e := s.Advance(api.MaxTime + 1); e != api.ErrArg {
		t.Error(e)
	}
	check(t, "still", s, "", link, -1)
	goOn(t, s, accept(id), arrive(id, byLength("a 1\n")))
	check(t, "answered", s, fmt.Sprintf("0 at %d+0 ok 3", int64(api.MaxTime)), fmt.Sprintf("%d of 0 kept 2", id), -1)
}
