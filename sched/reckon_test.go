package sched_test

import (
	"fmt"
	"slices"
	"strings"
	"testing"

	"odometer/api"
	"odometer/config"
	"odometer/sched"
	"odometer/scrape"
)

// plain is a sched by the chapter's words, which goes from each time to the next one: of each connection that was ever dialled, at the place of its number less one, how it is, and of each target the scrape that goes on.
type plain struct {
	c       api.Config
	now     int64
	came    int64 // up to when all came
	conns   []plainConn
	scrapes []*scrape.Scrape
	results []api.Result
	again   int // how many scrapes were begun over a connection that was kept
}

type plainConn struct {
	target int
	state  api.ConnState // none: it was closed
	sent   string
}

func newPlain(c api.Config) *plain {
	return &plain{c: c, came: -1, scrapes: make([]*scrape.Scrape, len(c.Targets))}
}

func (p *plain) copy() *plain {
	c := *p
	c.conns, c.scrapes, c.results = slices.Clone(p.conns), slices.Clone(p.scrapes), slices.Clone(p.results)
	for i, x := range c.scrapes {
		c.scrapes[i] = x.Copy()
	}
	return &c
}

// conn is the number of a target's connection, 0 if it has none.
func (p *plain) conn(target int) int {
	for i, x := range p.conns {
		if x.target == target && x.state != api.ConnNone {
			return i + 1
		}
	}
	return 0
}

func (p *plain) advance(to int64) api.Errno {
	if to < p.now || to > api.MaxTime {
		return api.ErrArg
	}
	for p.came < to {
		p.came++
		p.now = p.came
		for i, x := range p.scrapes {
			if x != nil && x.Last() == p.now {
				x.Tick(p.now)
				p.look(i)
			}
		}
		for i := range p.c.Targets {
			if p.isTurn(i, p.now) {
				p.turn(i)
			}
		}
	}
	p.now = to
	return api.OK
}

func (p *plain) isTurn(target int, at int64) bool {
	x := p.c.Targets[target]
	return at%x.Interval == config.Offset(x)
}

func (p *plain) turn(i int) {
	x, _ := scrape.New(i, p.c.Targets[i], p.c.Body, p.now)
	p.scrapes[i] = x
	if id := p.conn(i); id > 0 {
		p.conns[id-1].sent += string(x.Open(p.now))
		p.again++
		return
	}
	p.conns = append(p.conns, plainConn{target: i, state: api.ConnDialling})
}

// look ends a scrape that is over.
func (p *plain) look(i int) {
	r, over := p.scrapes[i].Result()
	if !over {
		return
	}
	p.results = append(p.results, r)
	if !p.scrapes[i].Reuse() {
		p.close(i)
	}
	p.scrapes[i] = nil
}

func (p *plain) close(i int) {
	if id := p.conn(i); id > 0 {
		p.conns[id-1] = plainConn{target: i}
	}
}

// do is what a step comes to.
func (p *plain) do(s step) api.Errno {
	if s.what == "advance" {
		return p.advance(s.n)
	}
	if s.n < 1 || s.n > int64(len(p.conns)) || p.conns[s.n-1].state == api.ConnNone {
		return api.ErrNone
	}
	x := &p.conns[s.n-1]
	if dials := s.what == "accept" || s.what == "refuse"; dials != (x.state == api.ConnDialling) {
		return api.ErrState
	}
	on := p.scrapes[x.target]
	if on == nil {
		p.close(x.target)
		return api.OK
	}
	switch s.what {
	case "accept":
		x.state = api.ConnOpen
		x.sent = string(on.Open(p.now))
	case "refuse":
		on.Refuse(p.now)
	case "reset":
		on.Reset(p.now)
	case "end":
		on.End(p.now)
	case "arrive":
		on.Bytes([]byte(s.b), p.now)
	}
	p.look(x.target)
	return api.OK
}

// next is the first time behind those that came at which something would.
func (p *plain) next() int64 {
	for at := p.came + 1; ; at++ {
		for i, x := range p.scrapes {
			if x != nil && x.Last() == at || p.isTurn(i, at) {
				return at
			}
		}
	}
}

// ids are the numbers of the connections that are looked at: those that are there, and the last ones.
func (p *plain) ids() []int {
	var l []int
	for i, x := range p.conns {
		if x.state != api.ConnNone || i+6 >= len(p.conns) {
			l = append(l, i+1)
		}
	}
	return l
}

// tell is all that it tells, but for the results.
func (p *plain) tell() string {
	text := fmt.Sprintf("at %d, next %d,", p.now, p.next())
	for i := range p.c.Targets {
		if id := p.conn(i); id > 0 {
			text += fmt.Sprintf(" %v", api.Link{Conn: id, Target: i, Busy: p.scrapes[i] != nil})
		}
	}
	for _, id := range p.ids() {
		text += fmt.Sprintf(", %d: %d %s", id, p.conns[id-1].state, p.conns[id-1].sent)
	}
	return text
}

// both are a sched, and what it has to be.
type both struct {
	s *sched.Sched
	p *plain
}

func newBoth(t *testing.T, targets ...api.Target) both {
	t.Helper()
	return both{begun(t, targets...), newPlain(conf(targets...))}
}

func (x both) copy() both { return both{x.s.Copy(), x.p.copy()} }

// tell is all that the sched tells, as the other one does.
func (x both) tell() string {
	at, is := x.s.Next()
	text := fmt.Sprintf("at %d, next %d,", x.s.Now(), at)
	if !is {
		text = "none"
	}
	for _, l := range x.s.Links() {
		text += fmt.Sprintf(" %v", l)
	}
	for _, id := range x.p.ids() {
		text += fmt.Sprintf(", %d: %d %s", id, x.s.State(id), x.s.Sent(id))
	}
	return text
}

// look holds one against the other.
func (x both) look(t *testing.T, behind string) {
	t.Helper()
	if is, want := x.tell(), x.p.tell(); is != want {
		t.Fatalf("behind %s: %s, want %s", behind, is, want)
	}
	if id := len(x.p.conns) + 1; x.s.State(id) != api.ConnNone || x.s.State(0) != api.ConnNone {
		t.Fatalf("behind %s: there are more connections", behind)
	}
}

// do does a step to both.
func (x both) do(t *testing.T, s step) {
	t.Helper()
	if e, want := s.do(x.s), x.p.do(s); e != want {
		t.Fatalf("%v: %v, want %v; behind it %s", s, e, want, x.p.tell())
	}
	x.look(t, fmt.Sprint(s))
}

// ask holds the results that are new against those that have to be, and answers them.
func (x both) ask(t *testing.T) []api.Result {
	t.Helper()
	l := x.s.Results()
	if !slices.EqualFunc(l, x.p.results, sameResult) {
		t.Fatalf("results %+v, want %+v", l, x.p.results)
	}
	x.p.results = nil
	return l
}

func sameResult(a, b api.Result) bool {
	return a.Target == b.Target && a.At == b.At && a.Took == b.Took && a.Err == b.Err && slices.Equal(a.Samples, b.Samples)
}

// steps are some that may be done to a sched of a few connections.
func (x both) steps() []step {
	now := x.p.now
	l := []step{advance(now - 1), advance(now), advance(now + 1), advance(now + 2), advance(now + 9)}
	for id := range min(int64(len(x.p.conns)), 3) + 1 {
		id += max(0, int64(len(x.p.conns))-3) // the last ones, and one that is not there
		l = append(l, accept(id+1), refuse(id+1), reset(id+1), end(id+1))
		for _, b := range []string{"", "HTTP/1.1 200 OK\r\n", "\r\n", byLength("a 1\n")} {
			l = append(l, arrive(id+1, b))
		}
	}
	return l
}

// all goes all short ways.
func all(t *testing.T, x both, depth int) {
	t.Helper()
	if depth == 0 {
		x.ask(t)
		return
	}
	for _, s := range x.steps() {
		y := x.copy()
		y.do(t, s)
		all(t, y, depth-1)
	}
	x.look(t, "all that was done to copies")
	x.ask(t)
}

// P15.1 to P15.4: all short ways, from several places on
func TestAllShortWays(t *testing.T) {
	t.Parallel() // it has many of them
	short := []api.Target{target("a", 0, 2, 1), target("b", 0, 3, 3)}
	all(t, newBoth(t, short...), 4)
	for _, first := range [][]step{
		{advance(0), accept(1), accept(2)},
		{advance(0), accept(1), arrive(1, byLength(""))},
		{advance(1), accept(2), arrive(2, byLength("a 1\n")), advance(3)},
		{advance(3), accept(4), arrive(4, "HTTP/1.1 200 OK\r\n")},
	} {
		x := newBoth(t, short...)
		for _, s := range first {
			x.do(t, s)
		}
		all(t, x, 3)
	}
}

// sequence gives numbers below others, the same in each run.
func sequence(state uint64) func(below int) int {
	return func(below int) int {
		state = state*6364136223846793005 + 1442695040888963407
		return int(state >> 33 % uint64(below))
	}
}

// someTargets are some of any kind.
func someTargets(next func(below int) int) []api.Target {
	var l []api.Target
	for i := range 1 + next(4) {
		interval := int64(1 + next([]int{3, 12, 40}[next(3)]))
		timeout := interval
		if next(3) > 0 {
			timeout = int64(1 + next(int(interval)))
		}
		l = append(l, target(fmt.Sprintf("h%d", i), int64(next(int(interval))), interval, timeout))
	}
	return l
}

// someAnswer is one of any kind, or a part of it.
func someAnswer(next func(below int) int) string {
	text := []string{"", "a 1\n", "# TYPE b counter\nb{c=\"d\"} 2\n", "x", "a 1\na 1\n"}[next(11)/3+next(2)]
	whole := []string{byLength(text), byLength(text), byLength(text), closing(text), tillEnd(text), byLength(text) + "x", "HTTP/1.1 404 No\r\n\r\n", strings.Repeat("x", 9000)}[next(8)]
	if next(4) == 0 {
		return whole[:next(len(whole)+1)]
	}
	return whole
}

// someSteps are such that something mostly goes on over them.
func someSteps(x both, next func(below int) int) []step {
	links := x.s.Links()
	if len(links) == 0 || next(3) == 0 {
		return []step{advance(x.p.now + int64(next([]int{2, 6, 30}[next(3)])))}
	}
	l := links[next(len(links))]
	id := int64(l.Conn)
	switch {
	case x.s.State(l.Conn) == api.ConnDialling && next(4) > 0:
		return []step{accept(id)}
	case l.Busy && next(2) > 0: // cut somewhere
		b := someAnswer(next)
		at := next(len(b) + 1)
		if next(3) > 0 {
			return []step{arrive(id, b)}
		}
		return []step{arrive(id, b[:at]), advance(x.p.now + int64(next(3))), arrive(id, b[at:])}
	case next(5) == 0:
		return []step{refuse(id), reset(id)}
	case next(5) == 0:
		return []step{end(id)}
	case next(9) == 0:
		return []step{accept(id), refuse(id + int64(next(3)) - 1), arrive(id-1, "x")}
	case next(9) == 0:
		return []step{arrive(id, "")}
	}
	return []step{advance(x.p.now + 1)}
}

// P15.1 to P15.4: long ways, of copies too; P15.5, P0.4, P0.5 on the way
func TestSomeWays(t *testing.T) {
	came, again := map[api.Errno]int{}, 0
	for way := range 400 {
		next := sequence(uint64(way))
		ways := []both{newBoth(t, someTargets(next)...)}
		told := [][]api.Result{nil} // of each way
		for range 150 {
			i := next(len(ways))
			x := ways[i]
			for _, s := range someSteps(x, next) {
				if s.what == "advance" && s.n < x.p.now {
					continue
				}
				x.do(t, s)
				bounded(t, x)
			}
			if next(4) == 0 {
				told[i] = append(told[i], x.ask(t)...)
			}
			if len(ways) < 3 && next(40) == 0 {
				ways, told = append(ways, x.copy()), append(told, slices.Clone(told[i]))
			}
		}
		for i, x := range ways {
			told[i] = append(told[i], x.ask(t)...)
			oneEach(t, x, told[i])
			for _, r := range told[i] {
				came[r.Err]++
			}
			again += x.p.again
		}
	}
	for _, e := range []api.Errno{api.OK, api.ErrStatus, api.ErrCode, api.ErrEnd, api.ErrTimeout, api.ErrRefused, api.ErrReset, api.ErrLine, api.ErrTwice} {
		if came[e] < 100 {
			t.Errorf("%v came %d times alone", e, came[e])
		}
	}
	if again < 500 {
		t.Errorf("%d over a connection that was kept", again)
	}
}

// bounded: are there no more connections than may be, nor two of one target?
func bounded(t *testing.T, x both) {
	t.Helper()
	links, many := x.s.Links(), 0
	for id := range len(x.p.conns) + 2 {
		if x.s.State(id) != api.ConnNone {
			many++
		}
	}
	if many != len(links) || many > x.p.c.Conns {
		t.Fatalf("%d connections, %d links, for %d", many, len(links), x.p.c.Conns)
	}
	for i, l := range links {
		if i > 0 && links[i-1].Target >= l.Target {
			t.Fatalf("links %v", links)
		}
	}
}

// oneEach holds a way's results against the turns that came: one each, in time, at the last time at the latest; and no other one.
func oneEach(t *testing.T, x both, told []api.Result) {
	t.Helper()
	type turn struct {
		target int
		at     int64
	}
	many := map[turn]int{}
	over := int64(0)
	for _, r := range told {
		many[turn{r.Target, r.At}]++
		if r.Took < 0 || r.Took > x.p.c.Targets[r.Target].Timeout || r.At+r.Took < over {
			t.Fatalf("%+v, of %+v, behind one at %d", r, x.p.c.Targets[r.Target], over)
		}
		over = r.At + r.Took
	}
	for i, y := range x.p.c.Targets {
		for at := config.Due(y, 0); at <= x.p.came; at += y.Interval {
			n := many[turn{i, at}]
			if n > 1 || n == 0 && at+y.Timeout <= x.p.came {
				t.Fatalf("%d results of the turn of %d at %d, it is %d", n, i, at, x.p.came)
			}
			delete(many, turn{i, at})
		}
	}
	if len(many) > 0 {
		t.Fatalf("results of no turn: %v", many)
	}
}

// P15.5, P0.5: where all is accepted and answered in time, each target is scraped once in each interval, at its offset, over one connection.
func TestGoesOn(t *testing.T) {
	targets := []api.Target{target("a", 4, 10, 1), target("b", 0, 7, 7), target("c", 11, 12, 3)}
	s := begun(t, targets...)
	var told []api.Result
	for at, is := s.Next(); is && at <= 1000; at, is = s.Next() {
		goOn(t, s, advance(at))
		for _, l := range s.Links() {
			if s.State(l.Conn) == api.ConnDialling {
				goOn(t, s, accept(int64(l.Conn)))
			}
			if l.Busy {
				goOn(t, s, arrive(int64(l.Conn), byLength("a 1\n")))
			}
		}
		told = append(told, s.Results()...)
	}
	for i, x := range targets {
		at := config.Offset(x)
		for _, r := range told {
			if r.Target == i {
				if r.At != at || r.Took != 0 || r.Err != api.OK {
					t.Errorf("%+v, want one at %d", r, at)
				}
				at += x.Interval
			}
		}
		if at <= 1000 {
			t.Errorf("%d has no result at %d", i, at)
		}
	}
	if is := linked(s); is != "2 of 0 kept 2; 1 of 1 kept 2; 3 of 2 kept 2" {
		t.Error(is)
	}
}
