package sched

import (
	"odometer/api"
	"odometer/net"
)

// deed is what a script does to a connection: to the net, and what the scrape that goes on over it is told of that.
type deed struct {
	done func(n *net.Net, id int) api.Errno
	told func(s *Sched, place int)
}

// The places of deeds in their row.
const (
	accept = iota
	refuse
	reset
	end
)

// deeds is the row of all that need no bytes.
func deeds() [4]deed {
	return [4]deed{
		accept: {(*net.Net).Accept, (*Sched).open},
		refuse: {(*net.Net).Refuse, (*Sched).refused},
		reset:  {(*net.Net).Reset, (*Sched).broke},
		end:    {(*net.Net).End, (*Sched).ended},
	}
}

// do does a deed to a connection, at the clock's time.
func (s *Sched) do(d deed, id int) api.Errno {
	if !s.made() {
		return api.ErrNil
	}
	e := d.done(s.net, id)
	if e != api.OK {
		return e
	}
	for place := range len(s.targets) {
		if s.targets[place].conn == id { // this is so of one
			s.tell(place, d)
		}
	}
	return api.OK
}

// tell tells of a deed to a target's connection. Nobody waits for what comes over one that was kept.
func (s *Sched) tell(place int, d deed) {
	if s.targets[place].scrape == nil {
		s.hangUp(place)
		return
	}
	d.told(s, place)
	s.settle(place)
}

// open: a target's connection is open; its request is sent.
func (s *Sched) open(place int) {
	x := s.targets[place]
	s.net.Send(x.conn, x.scrape.Open(s.Now()))
}

func (s *Sched) refused(place int) { s.targets[place].scrape.Refuse(s.Now()) }

func (s *Sched) broke(place int) { s.targets[place].scrape.Reset(s.Now()) }

func (s *Sched) ended(place int) { s.targets[place].scrape.End(s.Now()) }

// read tells a target's scrape what arrived.
func (s *Sched) read(place int) {
	x := s.targets[place]
	x.scrape.Bytes(s.net.Read(x.conn), s.Now())
}

// hangUp closes a target's connection, if it has one.
func (s *Sched) hangUp(place int) {
	x := &s.targets[place]
	s.net.Close(x.conn)
	x.conn = 0
}
