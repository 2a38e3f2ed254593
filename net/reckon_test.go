package net_test

import (
	"fmt"
	"slices"
	"strings"
	"testing"

	"odometer/api"
	"odometer/net"
)

// plain is a net by the chapter's words: every connection that was ever dialled, at the place of its number less one.
type plain struct {
	most  int
	conns []plainConn
}

// plainConn has all that arrived while it was open, and how much of it was read.
type plainConn struct {
	host    string
	state   api.ConnState // none: it is forgotten
	arrived string
	read    int
	lost    bool
	sent    string
}

func (p *plain) copy() *plain { return &plain{p.most, slices.Clone(p.conns)} }

func (p *plain) many() int {
	many := 0
	for _, c := range p.conns {
		if c.state != api.ConnNone {
			many++
		}
	}
	return many
}

func (c plainConn) left() string {
	if c.lost || c.state == api.ConnNone {
		return ""
	}
	return c.arrived[c.read:]
}

// step is what is done to a net.
type step struct {
	what string
	id   int
	text string
}

// do is what a step comes to: an error, behind what else is answered.
func (p *plain) do(s step) string {
	if s.what == "dial" {
		if p.many() >= p.most {
			return "0 full"
		}
		p.conns = append(p.conns, plainConn{host: s.text, state: api.ConnDialling})
		return fmt.Sprint(len(p.conns), " ok")
	}
	if s.id < 1 || s.id > len(p.conns) || p.conns[s.id-1].state == api.ConnNone {
		if s.what == "read" {
			return ""
		}
		return "none"
	}
	c := &p.conns[s.id-1]
	was := c.state
	switch {
	case s.what == "read":
		text := c.left()
		c.read = len(c.arrived)
		return text
	case s.what == "close":
		c.state = api.ConnNone
	case s.what == "accept" && was == api.ConnDialling:
		c.state = api.ConnOpen
	case s.what == "refuse" && was == api.ConnDialling:
		c.state = api.ConnRefused
	case s.what == "reset" && (was == api.ConnOpen || was == api.ConnEnded):
		c.state, c.lost = api.ConnReset, true
	case s.what == "end" && was == api.ConnOpen:
		c.state = api.ConnEnded
	case s.what == "arrive" && was == api.ConnOpen:
		c.arrived += s.text
	case s.what == "send" && was == api.ConnOpen:
		c.sent += s.text
	default:
		return "state"
	}
	return "ok"
}

// does is the same of a net.
func does(n *net.Net, s step) string {
	switch s.what {
	case "dial":
		id, e := n.Dial(s.text)
		return fmt.Sprint(id, " ", e)
	case "accept":
		return n.Accept(s.id).Error()
	case "refuse":
		return n.Refuse(s.id).Error()
	case "reset":
		return n.Reset(s.id).Error()
	case "end":
		return n.End(s.id).Error()
	case "arrive":
		return n.Arrive(s.id, []byte(s.text)).Error()
	case "send":
		return n.Send(s.id, []byte(s.text)).Error()
	case "close":
		return n.Close(s.id).Error()
	}
	return string(n.Read(s.id))
}

// told is all that can be told of it.
func (p *plain) told() string {
	b := fmt.Sprint(p.many(), ";")
	for i, c := range p.conns {
		if c.state != api.ConnNone {
			b += fmt.Sprintf("%d %q;", i+1, c.host)
		}
	}
	for id := -1; id <= len(p.conns)+2; id++ {
		c := plainConn{}
		if id > 0 && id <= len(p.conns) && p.conns[id-1].state != api.ConnNone {
			c = p.conns[id-1]
		}
		b += fmt.Sprintf("%d %d %q;", c.state, len(c.left()), c.sent)
	}
	return b
}

// tells is the same of a net that had so many connections.
func tells(n *net.Net, many int) string {
	b := fmt.Sprint(n.Len(), ";")
	for id, host := range n.All() {
		b += fmt.Sprintf("%d %q;", id, host)
	}
	for id := -1; id <= many+2; id++ {
		b += fmt.Sprintf("%d %d %q;", n.State(id), n.Left(id), n.Sent(id))
	}
	return b
}

// key is what makes a net another one: all that is told, what is to be read, how many may be, which number comes next.
func (p *plain) key() string {
	b := fmt.Sprintf("%d %d %s", p.most, len(p.conns), p.told())
	for _, c := range p.conns {
		b += fmt.Sprintf(" %q", c.left())
	}
	return b
}

// pair is a net, and what it has to be.
type pair struct {
	n *net.Net
	p *plain
}

func (x pair) copy() pair { return pair{x.n.Copy(), x.p.copy()} }

// do holds what a step comes to, and all that is told behind it, against the chapter's words.
func (x pair) do(t *testing.T, s step) string {
	t.Helper()
	is, want := does(x.n, s), x.p.do(s)
	if is != want {
		t.Fatalf("%v: %q, want %q, behind it %s", s, is, want, x.p.told())
	}
	if is, want := tells(x.n, len(x.p.conns)), x.p.told(); is != want {
		t.Fatalf("behind %v: %s, want %s", s, is, want)
	}
	return is
}

// steps are some that a net of few connections may be put through.
func steps() []step {
	all := []step{{"dial", 0, "a"}, {"dial", 0, "b"}}
	for _, what := range []string{"accept", "refuse", "reset", "end", "read", "close"} {
		all = append(all, step{what, 1, ""})
	}
	return append(all, step{"arrive", 1, "x"}, step{"arrive", 1, ""}, step{"send", 1, "x"}, step{"accept", 2, ""}, step{"close", 2, ""})
}

// Short ways of a net, all of them, and which of the nets that they lead to are the same.
func TestShortWays(t *testing.T) {
	first := map[string]*net.Net{} // of each key
	var walk func(x pair, more int)
	walk = func(x pair, more int) {
		key := x.p.key()
		if o := first[key]; o == nil {
			first[key] = x.n.Copy()
		} else if !x.n.Same(o) || !o.Same(x.n) {
			t.Fatalf("two nets of %s are not the same", key)
		}
		if more == 0 {
			return
		}
		for _, s := range steps() {
			y := x.copy()
			y.do(t, s)
			walk(y, more-1)
		}
	}
	for most := range 3 {
		walk(pair{net.New(most), &plain{most: most}}, 4)
	}
	for key, n := range first {
		for other, o := range first {
			if is := n.Same(o); is != (key == other) {
				t.Fatalf("same %v: %s, and %s", is, key, other)
			}
		}
	}
	if len(first) < 100 {
		t.Errorf("%d nets alone", len(first))
	}
}

// sequence gives numbers below others, the same in each run.
func sequence() func(below int) int {
	state := uint64(1)
	return func(below int) int {
		state = state*6364136223846793005 + 1442695040888963407
		return int(state >> 33 % uint64(below))
	}
}

// P4.6 and P0.3: whatever comes, connections are as many as may be at most, and what is read is a beginning of what arrived; no bytes do any harm.
func TestLongWays(t *testing.T) {
	next := sequence()
	words := []string{"dial", "dial", "accept", "accept", "accept", "refuse", "reset", "end", "arrive", "arrive", "arrive", "arrive", "send", "send", "read", "read", "close"}
	texts := []string{"", "a", "bc", "\x00\xff", "\r\n\r\n", "é", strings.Repeat("long", 50)}
	for range 300 {
		most := next(6)
		nets := []pair{{net.New(most), &plain{most: most}}}
		arrived, read := map[int]string{}, map[int]string{} // of the first one's connections
		for range 150 {
			at := next(len(nets))
			x := nets[at]
			from := max(len(x.p.conns)-most, 0)
			s := step{words[next(len(words))], from + next(most+2), texts[next(len(texts))]}
			answer := x.do(t, s)
			if x.n.Len() > most {
				t.Fatalf("%d connections, of %d at most", x.n.Len(), most)
			}
			switch {
			case at == 0 && s.what == "arrive" && answer == "ok":
				arrived[s.id] += s.text
			case at == 0 && s.what == "read":
				read[s.id] += answer
			}
			if !strings.HasPrefix(arrived[s.id], read[s.id]) {
				t.Fatalf("%q was read, %q arrived", read[s.id], arrived[s.id])
			}
			if len(nets) < 4 && next(20) == 0 {
				nets = append(nets, x.copy())
			}
			o := nets[next(len(nets))]
			if is, want := x.n.Same(o.n), x.p.key() == o.p.key(); is != want {
				t.Fatalf("same %v: %s, and %s", is, x.p.key(), o.p.key())
			}
		}
	}
}
