package net_test

import (
	"bytes"
	"math"
	"strings"
	"testing"

	"odometer/api"
	"odometer/net"
)

// dialled is a net for most, whose connections, of these hosts, dial.
func dialled(t *testing.T, most int, hosts ...string) *net.Net {
	t.Helper()
	n := net.New(most)
	for _, host := range hosts {
		checkDial(t, n, host, n.Len()+1, api.OK)
	}
	return n
}

// opened is the same, and the connections are open.
func opened(t *testing.T, most int, hosts ...string) *net.Net {
	t.Helper()
	n := dialled(t, most, hosts...)
	for id := range n.All() {
		check(t, "Accept", n.Accept(id), api.OK)
	}
	return n
}

func check(t *testing.T, what string, is, want api.Errno) {
	t.Helper()
	if is != want {
		t.Errorf("%s: %v, want %v", what, is, want)
	}
}

func checkDial(t *testing.T, n *net.Net, host string, want int, wrong api.Errno) {
	t.Helper()
	if id, e := n.Dial(host); id != want || e != wrong {
		t.Errorf("Dial(%.100q) = %d, %v, want %d, %v", host, id, e, want, wrong)
	}
}

func checkRead(t *testing.T, n *net.Net, id int, want string) {
	t.Helper()
	if left := n.Left(id); left != len(want) {
		t.Errorf("Left(%d) = %d, want %d", id, left, len(want))
	}
	if b := n.Read(id); string(b) != want {
		t.Errorf("Read(%d) = %.100q, want %.100q", id, b, want)
	}
	if left, b := n.Left(id), n.Read(id); left != 0 || len(b) != 0 {
		t.Errorf("behind Read(%d): Left %d, Read %.100q", id, left, b)
	}
}

// P4.1

func TestNew(t *testing.T) {
	for _, most := range []int{math.MinInt, -1, 0, 1, 2, 32, math.MaxInt} {
		n := net.New(most)
		if n == nil || n.Len() != 0 || hosts(n) != "" || n.State(1) != api.ConnNone {
			t.Errorf("New(%d) is not without connections", most)
		}
		for i := range min(max(most, 0), 40) {
			checkDial(t, n, "a", i+1, api.OK)
		}
		if most <= 40 {
			checkDial(t, n, "a", 0, api.ErrFull)
		}
	}
}

func TestZeroNetIsForNone(t *testing.T) {
	var n net.Net
	if !n.Same(net.New(0)) || !net.New(0).Same(&n) || !n.Copy().Same(&n) {
		t.Error("a zero net is not as New(0)")
	}
	for range 2 {
		checkDial(t, &n, "a", 0, api.ErrFull)
		check(t, "Accept", n.Accept(1), api.ErrNone)
		check(t, "Close", n.Close(0), api.ErrNone)
	}
	if n.Len() != 0 || hosts(&n) != "" || n.Read(1) != nil || n.Sent(1) != nil || n.Left(1) != 0 || n.State(1) != api.ConnNone {
		t.Error("a zero net has something")
	}
}

func TestDial(t *testing.T) {
	for _, host := range []string{"a:80", "", "a", "\x00\xff\n", strings.Repeat("h", 1<<20)} { // which host may be is not this layer's
		n := dialled(t, 3, host, host)
		if s := hosts(n); s != "1 "+host+";2 "+host+";" || n.Len() != 2 {
			t.Errorf("hosts %.200q", s)
		}
		if n.State(1) != api.ConnDialling || n.State(2) != api.ConnDialling || n.State(3) != api.ConnNone {
			t.Errorf("states %d, %d, %d", n.State(1), n.State(2), n.State(3))
		}
		checkRead(t, n, 1, "")
		if b := n.Sent(1); len(b) != 0 {
			t.Errorf("Sent = %q", b)
		}
	}
}

// A connection has its place till it is closed, whatever its state is.
func TestDialWhereThereIsNoRoom(t *testing.T) {
	for state := api.ConnDialling; state <= api.ConnReset; state++ {
		n := inState(t, state) // it is for two, and has two
		as := n.Copy()
		checkDial(t, n, "c", 0, api.ErrFull)
		checkDial(t, n, "a", 0, api.ErrFull)
		if !n.Same(as) {
			t.Errorf("state %d: a call that was refused changed something", state)
		}
		check(t, "Close", n.Close(1), api.OK)
		checkDial(t, n, "c", 3, api.OK)
		checkDial(t, n, "d", 0, api.ErrFull)
		if s := hosts(n); s != "2 b;3 c;" || n.Len() != 2 {
			t.Errorf("state %d: hosts %s", state, s)
		}
	}
}

func TestNumbersAreNotUsedAgain(t *testing.T) {
	n := net.New(2)
	for id := 1; id < 1000; id += 2 {
		checkDial(t, n, "a", id, api.OK)
		checkDial(t, n, "b", id+1, api.OK)
		checkDial(t, n, "c", 0, api.ErrFull) // this takes no number
		n.Refuse(id)
		check(t, "Close", n.Close(id+1), api.OK)
		check(t, "Close", n.Close(id), api.OK)
		if n.Len() != 0 || n.State(id) != api.ConnNone || n.State(id+1) != api.ConnNone {
			t.Errorf("%d and the next one are still there", id)
		}
	}
}

// P4.2, P4.3

// calls are what asks for a state, by its name.
func calls(n *net.Net, id int) map[string]func() api.Errno {
	return map[string]func() api.Errno{
		"Accept":     func() api.Errno { return n.Accept(id) },
		"Refuse":     func() api.Errno { return n.Refuse(id) },
		"Reset":      func() api.Errno { return n.Reset(id) },
		"End":        func() api.Errno { return n.End(id) },
		"Arrive":     func() api.Errno { return n.Arrive(id, []byte("more")) },
		"Arrive nil": func() api.Errno { return n.Arrive(id, nil) },
		"Send":       func() api.Errno { return n.Send(id, []byte("more")) },
		"Send nil":   func() api.Errno { return n.Send(id, nil) },
		"Close":      func() api.Errno { return n.Close(id) },
	}
}

// inState is a net with a connection 1 that is in a state; where it was open some bytes arrived, some of them were read, and some were sent.
func inState(t *testing.T, state api.ConnState) *net.Net {
	t.Helper()
	n := dialled(t, 2, "a", "b")
	if state == api.ConnOpen || state == api.ConnEnded || state == api.ConnReset {
		n.Accept(1)
		n.Arrive(1, []byte("read"))
		n.Read(1)
		n.Arrive(1, []byte("left"))
		n.Send(1, []byte("sent"))
	}
	switch state {
	case api.ConnEnded:
		n.End(1)
	case api.ConnRefused:
		n.Refuse(1)
	case api.ConnReset:
		n.Reset(1)
	}
	if is := n.State(1); is != state {
		t.Fatalf("state %d, want %d", is, state)
	}
	return n
}

// after is what a connection of a state is like behind a call that is not refused; where there is none, it is.
func after(call string, state api.ConnState) (next api.ConnState, left, sent string, may bool) {
	if state == api.ConnOpen || state == api.ConnEnded {
		left = "left"
	}
	if left != "" || state == api.ConnReset {
		sent = "sent"
	}
	switch {
	case call == "Close":
		return api.ConnNone, "", "", true
	case call == "Accept" && state == api.ConnDialling:
		return api.ConnOpen, "", "", true
	case call == "Refuse" && state == api.ConnDialling:
		return api.ConnRefused, "", "", true
	case call == "Reset" && state == api.ConnOpen, call == "Reset" && state == api.ConnEnded:
		return api.ConnReset, "", sent, true
	case call == "End" && state == api.ConnOpen:
		return api.ConnEnded, left, sent, true
	case call == "Arrive" && state == api.ConnOpen:
		return state, left + "more", sent, true
	case call == "Send" && state == api.ConnOpen:
		return state, left, sent + "more", true
	case call == "Arrive nil" && state == api.ConnOpen, call == "Send nil" && state == api.ConnOpen:
		return state, left, sent, true
	}
	return state, left, sent, false
}

func TestEachCallInEachState(t *testing.T) {
	for state := api.ConnDialling; state <= api.ConnReset; state++ {
		for call := range calls(nil, 0) {
			n := inState(t, state)
			other := n.Copy()
			next, left, sent, may := after(call, state)
			want := api.ErrState
			if may {
				want = api.OK
			}
			if e := calls(n, 1)[call](); e != want {
				t.Errorf("%s in state %d: %v, want %v", call, state, e, want)
			}
			if !may && !n.Same(other) {
				t.Errorf("%s in state %d was refused and changed something", call, state)
			}
			if is, b := n.State(1), n.Sent(1); is != next || string(b) != sent {
				t.Errorf("%s in state %d: state %d, sent %q, want %d, %q", call, state, is, b, next, sent)
			}
			checkRead(t, n, 1, left)
			if n.State(2) != api.ConnDialling || n.Left(2) != 0 || len(n.Sent(2)) != 0 {
				t.Errorf("%s in state %d changed another connection", call, state)
			}
		}
	}
}

func TestNoSuchConnection(t *testing.T) {
	n := opened(t, 4, "a", "b", "c")
	n.Close(2)
	as := n.Copy()
	for _, id := range []int{math.MinInt, -1, 0, 2, 4, 5, 1 << 32, 1<<32 + 1, math.MaxInt} {
		for call, do := range calls(n, id) {
			check(t, call, do(), api.ErrNone)
		}
		if n.State(id) != api.ConnNone || n.Read(id) != nil || n.Sent(id) != nil || n.Left(id) != 0 {
			t.Errorf("there is something of %d", id)
		}
	}
	if !n.Same(as) {
		t.Error("calls of no connection changed something")
	}
}

func TestNoNet(t *testing.T) {
	var n *net.Net
	checkDial(t, n, "a", 0, api.ErrNil)
	for _, id := range []int{-1, 0, 1} {
		for call, do := range calls(n, id) {
			check(t, call, do(), api.ErrNil)
		}
		if n.State(id) != api.ConnNone || n.Read(id) != nil || n.Sent(id) != nil || n.Left(id) != 0 {
			t.Errorf("there is something of %d", id)
		}
	}
	if n.Len() != 0 || hosts(n) != "" || n.Copy() != nil {
		t.Error("there is something of nil")
	}
}

func TestExample(t *testing.T) {
	n := net.New(1)
	checkDial(t, n, "a", 1, api.OK)
	check(t, "Accept", n.Accept(1), api.OK)
	check(t, "Arrive", n.Arrive(1, []byte("ab")), api.OK)
	check(t, "End", n.End(1), api.OK)
	check(t, "Arrive", n.Arrive(1, []byte("c")), api.ErrState)
	checkRead(t, n, 1, "ab")
}

func TestBytesInParts(t *testing.T) {
	every := make([]byte, 1<<16)
	for i := range every {
		every[i] = byte(i ^ i>>8)
	}
	for _, size := range []int{1, 7, 256, 65535, 65536} {
		n := opened(t, 2, "a", "b")
		for at := 0; at < len(every); at += size {
			part := every[at:min(at+size, len(every))]
			check(t, "Arrive", n.Arrive(1, part), api.OK)
			check(t, "Arrive", n.Arrive(1, nil), api.OK)
			check(t, "Send", n.Send(2, part), api.OK)
			check(t, "Send", n.Send(2, []byte{}), api.OK)
		}
		checkRead(t, n, 1, string(every))
		checkRead(t, n, 2, "")
		if !bytes.Equal(n.Sent(2), every) || !bytes.Equal(n.Sent(2), every) || len(n.Sent(1)) != 0 {
			t.Errorf("parts of %d: not what was sent", size)
		}
	}
}

func TestReadBetween(t *testing.T) {
	n := opened(t, 1, "a")
	checkRead(t, n, 1, "")
	n.Arrive(1, []byte("a"))
	n.Arrive(1, []byte("b"))
	checkRead(t, n, 1, "ab")
	n.Arrive(1, []byte("c"))
	n.End(1)
	if n.State(1) != api.ConnEnded {
		t.Errorf("state %d", n.State(1))
	}
	checkRead(t, n, 1, "c")
	n.Reset(1)
	checkRead(t, n, 1, "")
}

// What is handed in is not changed and not kept; what is answered is the caller's.
func TestMemoryIsApart(t *testing.T) {
	n := opened(t, 1, "a")
	part := append(make([]byte, 0, 64), "part"...)
	n.Arrive(1, part)
	n.Send(1, part)
	copy(part, "****")
	n.Arrive(1, []byte(" two"))
	n.Send(1, []byte(" two"))
	if string(part[:8]) != "****\x00\x00\x00\x00" {
		t.Errorf("what was handed in is %q", part[:8])
	}
	copy(n.Sent(1), "****")
	if s := string(n.Sent(1)); s != "part two" {
		t.Errorf("Sent = %q", s)
	}
	read := n.Read(1)
	if string(read) != "part two" {
		t.Errorf("Read = %q", read)
	}
	n.Arrive(1, []byte("other")) // for which there would be room in what was read
	if string(read) != "part two" {
		t.Errorf("what was read became %q", read)
	}
	copy(read[:cap(read)], strings.Repeat("?", cap(read)))
	n.Arrive(1, n.Sent(1))
	checkRead(t, n, 1, "otherpart two")
}
