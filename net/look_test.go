package net_test

import (
	"strconv"
	"testing"

	"odometer/api"
	"odometer/net"
)

// hosts are the numbers and hosts that All goes over.
func hosts(n *net.Net) string {
	s := ""
	for id, host := range n.All() {
		s += strconv.Itoa(id) + " " + host + ";"
	}
	return s
}

// P4.4

func TestAllRises(t *testing.T) {
	n, want := net.New(300), ""
	for id := 1; id <= 300; id++ {
		n.Dial("h" + strconv.Itoa(id))
	}
	for id := 1; id <= 300; id++ {
		if id%3 == 0 {
			n.Close(id)
			continue
		}
		want += strconv.Itoa(id) + " h" + strconv.Itoa(id) + ";"
	}
	n.Dial("last")
	want += "301 last;"
	for range 5 {
		if s := hosts(n); s != want {
			t.Fatalf("All goes over %s", s)
		}
	}
	if n.Len() != 201 {
		t.Errorf("Len = %d", n.Len())
	}
}

func TestAllMayBeLeftAndGoneThroughAgain(t *testing.T) {
	n := dialled(t, 3, "a", "b", "c")
	all := n.All()
	for most := range 4 {
		times, last := 0, 0
		for id := range all {
			times, last = times+1, id
			if times > most {
				break
			}
		}
		if want := min(most+1, 3); times != want || last != want {
			t.Errorf("left behind %d: %d times, %d the last one", want, times, last)
		}
	}
	for range all { // one within the other
		s := ""
		for id, host := range all {
			s += strconv.Itoa(id) + " " + host + ";"
		}
		if s != "1 a;2 b;3 c;" {
			t.Errorf("All within All goes over %s", s)
		}
	}
}

func TestAllIsAsItWasWhenItWasCalled(t *testing.T) {
	n := dialled(t, 3, "a", "b")
	all := n.All()
	n.Close(1)
	n.Dial("c")
	for range 2 {
		s := ""
		for id, host := range all {
			n.Close(id) // what is done on the way does not change it either
			n.Dial(host)
			s += strconv.Itoa(id) + " " + host + ";"
		}
		if s != "1 a;2 b;" {
			t.Errorf("All goes over %s", s)
		}
	}
	if s := hosts(n); s != "3 c;4 a;5 b;" {
		t.Errorf("behind it All goes over %s", s)
	}
}

func TestAllOfNothing(t *testing.T) {
	var none *net.Net
	for _, n := range []*net.Net{none, {}, net.New(5)} {
		for id, host := range n.All() {
			t.Errorf("%d %q", id, host)
		}
	}
}

// P4.5

func TestCopyGoesOnApart(t *testing.T) {
	for state := api.ConnDialling; state <= api.ConnReset; state++ {
		for call := range calls(nil, 0) {
			n := inState(t, state)
			c, as := n.Copy(), inState(t, state)
			if !c.Same(n) || !n.Same(c) {
				t.Errorf("state %d: a copy is not the same", state)
			}
			calls(c, 1)[call]()
			c.Read(1)
			c.Accept(2)
			c.Send(2, []byte("?"))
			c.Arrive(2, []byte("?"))
			c.Close(2)
			c.Dial("c")
			if !n.Same(as) {
				t.Errorf("state %d: %s of a copy changed the other one", state, call)
			}
			d := as.Copy()
			calls(as, 1)[call]()
			as.Read(1)
			as.Close(2)
			if !d.Same(n) {
				t.Errorf("state %d: %s changed a copy", state, call)
			}
		}
	}
}

// Bytes behind a copy's, or behind the other one's, come into no memory that both have.
func TestCopySharesNoBytes(t *testing.T) {
	n := opened(t, 1, "a")
	for range 20 { // at some of these there is room behind what arrived
		n.Arrive(1, []byte("a"))
		n.Send(1, []byte("s"))
		c := n.Copy()
		left, sent := c.Left(1), string(c.Sent(1))
		n.Copy().Arrive(1, []byte("1"))
		c.Arrive(1, []byte("2"))
		c.Send(1, []byte("2"))
		d := n.Copy()
		d.Arrive(1, []byte("3"))
		d.Send(1, []byte("3"))
		if b := c.Read(1); len(b) != left+1 || b[left] != '2' || string(c.Sent(1)) != sent+"2" {
			t.Errorf("a copy reads %q, sent %q", b, c.Sent(1))
		}
		if b := d.Read(1); len(b) != left+1 || b[left] != '3' || string(d.Sent(1)) != sent+"3" {
			t.Errorf("another copy reads %q, sent %q", b, d.Sent(1))
		}
		if b := n.Copy().Read(1); len(b) > 0 {
			b[0] = '?'
		}
	}
	checkRead(t, n, 1, "aaaaaaaaaaaaaaaaaaaa")
}

func TestSameOfNil(t *testing.T) {
	var none *net.Net
	if !none.Same(nil) || none.Same(net.New(0)) || net.New(0).Same(nil) || none.Same(&net.Net{}) || (&net.Net{}).Same(nil) {
		t.Error("nil")
	}
}

// unlike are nets of which no two are the same, each told by what it is.
func unlike(t *testing.T) map[string]*net.Net {
	open := func(do func(n *net.Net)) *net.Net {
		n := opened(t, 2, "a")
		do(n)
		return n
	}
	return map[string]*net.Net{
		"for none":         net.New(0),
		"for one":          net.New(1),
		"for two":          net.New(2),
		"for three":        net.New(3),
		"a":                dialled(t, 2, "a"),
		"b":                dialled(t, 2, "b"),
		"no host":          dialled(t, 2, ""),
		"one, for three":   dialled(t, 3, "a"),
		"a, b":             dialled(t, 2, "a", "b"),
		"b, a":             dialled(t, 2, "b", "a"),
		"a, a":             dialled(t, 2, "a", "a"),
		"open":             open(func(n *net.Net) {}),
		"ended":            open(func(n *net.Net) { n.End(1) }),
		"reset":            open(func(n *net.Net) { n.Reset(1) }),
		"refused":          func() *net.Net { n := dialled(t, 2, "a"); n.Refuse(1); return n }(),
		"closed":           open(func(n *net.Net) { n.Close(1) }),
		"closed, again a":  open(func(n *net.Net) { n.Close(1); n.Dial("a") }),
		"twice closed":     open(func(n *net.Net) { n.Close(1); n.Dial("a"); n.Close(2) }),
		"second closed":    open(func(n *net.Net) { n.Dial("a"); n.Close(2) }),
		"first closed":     open(func(n *net.Net) { n.Dial("a"); n.Accept(2); n.Close(1) }),
		"arrived":          open(func(n *net.Net) { n.Arrive(1, []byte("x")) }),
		"other arrived":    open(func(n *net.Net) { n.Arrive(1, []byte("y")) }),
		"more arrived":     open(func(n *net.Net) { n.Arrive(1, []byte("xy")) }),
		"arrived, ended":   open(func(n *net.Net) { n.Arrive(1, []byte("x")); n.End(1) }),
		"sent":             open(func(n *net.Net) { n.Send(1, []byte("x")) }),
		"other sent":       open(func(n *net.Net) { n.Send(1, []byte("y")) }),
		"more sent":        open(func(n *net.Net) { n.Send(1, []byte("xy")) }),
		"sent, ended":      open(func(n *net.Net) { n.Send(1, []byte("x")); n.End(1) }),
		"sent, reset":      open(func(n *net.Net) { n.Send(1, []byte("x")); n.Reset(1) }),
		"sent and arrived": open(func(n *net.Net) { n.Send(1, []byte("x")); n.Arrive(1, []byte("x")) }),
	}
}

func TestSame(t *testing.T) {
	again := unlike(t)
	for x, n := range unlike(t) {
		for y, o := range again {
			if is := n.Same(o); is != (x == y) {
				t.Errorf("%s and %s: same %v", x, y, is)
			}
			if is := n.Copy().Same(o); is != (x == y) {
				t.Errorf("a copy of %s, and %s: same %v", x, y, is)
			}
		}
	}
}

// How it came that nets are as they are cannot be told of them.
func TestSameWhicheverWayItCame(t *testing.T) {
	n, o := opened(t, 2, "a", "b"), dialled(t, 2, "a", "b")
	o.Accept(2)
	o.Accept(1)
	n.Arrive(1, []byte("gone"))
	n.Read(1)
	n.Arrive(1, []byte("ab"))
	o.Arrive(1, []byte("a"))
	o.Arrive(1, nil)
	o.Arrive(1, []byte("b"))
	n.Send(1, []byte("cd"))
	o.Send(1, []byte("c"))
	o.Send(1, []byte("d"))
	o.Arrive(2, nil)
	o.Send(2, []byte{})
	n.Read(2)
	o.Dial("c")
	o.Accept(7)
	if !n.Same(o) || !o.Same(n) {
		t.Error("not the same")
	}
	n.Reset(1)
	o.Read(1)
	o.End(1)
	o.Reset(1)
	if !n.Same(o) || !o.Same(n) || !n.Same(n) {
		t.Error("not the same behind a reset")
	}
	if !net.New(-1).Same(net.New(0)) || !net.New(-1).Same(&net.Net{}) {
		t.Error("for none")
	}
}
