package net

import (
	"bytes"
	"iter"
	"maps"
	"slices"
	"strings"

	"odometer/api"
)

// State is a connection's state.
func (n *Net) State(id int) api.ConnState { return n.look(id).state }

// Sent is all bytes that were sent over a connection.
func (n *Net) Sent(id int) []byte { return bytes.Clone(n.look(id).sent) }

// Left is how many bytes arrived over a connection and were not read.
func (n *Net) Left(id int) int { return len(n.look(id).arrived) }

// Len is how many connections there are.
func (n *Net) Len() int {
	if n == nil {
		return 0
	}
	return len(n.conns)
}

// All goes over the connections' numbers, rising, and hosts, as they are now: what comes later does not change what it goes over.
func (n *Net) All() iter.Seq2[int, string] {
	list := n.list()
	return func(yield func(int, string) bool) {
		for _, x := range list {
			if !yield(x.id, x.host) {
				return
			}
		}
	}
}

// Copy is a net that does the same from now on, apart from n.
func (n *Net) Copy() *Net {
	if n == nil {
		return nil
	}
	c := New(n.most)
	c.last = n.last
	for id, host := range n.All() {
		x := n.look(id)
		c.conns[id] = &conn{host, x.state, bytes.Clone(x.arrived), bytes.Clone(x.sent)}
	}
	return c
}

// Same: will both do the same, whatever comes, and can the same be told of both?
func (n *Net) Same(o *Net) bool {
	if n == nil || o == nil {
		return n == o
	}
	if n.most != o.most || n.last != o.last || n.Len() != o.Len() {
		return false
	}
	for id := range n.All() {
		if !n.look(id).same(o.look(id)) {
			return false
		}
	}
	return true
}

// look is a connection as it is; where there is none, one of nothing, whose state is that of none.
func (n *Net) look(id int) conn {
	c, e := n.find(id)
	if e != api.OK {
		return conn{}
	}
	return *c
}

// same: is the same told of both, now and later? (What was read is gone.)
func (c conn) same(o conn) bool {
	return c.host == o.host && c.state == o.state && bytes.Equal(c.arrived, o.arrived) && bytes.Equal(c.sent, o.sent)
}

// entry is a connection's number and host.
type entry struct {
	id   int
	host string
}

// list is all connections, by rising numbers.
func (n *Net) list() []entry {
	if n == nil {
		return nil
	}
	list := make([]entry, 0, len(n.conns))
	for _, id := range slices.Sorted(maps.Keys(n.conns)) {
		list = append(list, entry{id, strings.Clone(n.conns[id].host)})
	}
	return list
}
