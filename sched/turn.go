package sched

import (
	"odometer/api"
	"odometer/scrape"
)

// turns is by how much the number of the timer of a target's turns is above its place, which is that of its scrapes' last times: a wheel tells timers of one time by rising numbers, and last times come ahead of turns.
const turns = api.MaxTargets

// whose timer is it: that of the target at which place, and is it that of its turns (else of its scrapes' last times)?
func whose(timer int) (place int, turn bool) {
	switch {
	case timer >= turns:
		timer, turn = timer-turns, true
		fallthrough
	default:
		place = timer
	}
	return place, turn
}

// come lets come what a timer is for.
func (s *Sched) come(timer int) {
	place, turn := whose(timer)
	if turn {
		s.begin(place)
	} else {
		s.targets[place].scrape.Tick(s.Now())
	}
	s.settle(place)
}

// begin begins a scrape of a target, at its turn. What would come beyond MaxTime does not: the wheel takes no timer there.
func (s *Sched) begin(place int) {
	x, now := &s.targets[place], s.Now()
	x.scrape, _ = scrape.New(place, x.set, s.body, now) // a target that may be may be scraped
	s.wheel.Set(place, x.scrape.Last())
	s.wheel.Set(turns+place, now+x.set.Interval)
	if x.conn != 0 {
		s.open(place)
		return
	}
	id, e := s.net.Dial(x.set.Host)
	if e != api.OK {
		x.scrape.Refuse(now)
		return
	}
	x.conn = id
}

// settle ends a target's scrape that is over by now: what it tells is a result, and its connection is kept, or closed.
func (s *Sched) settle(place int) {
	x := &s.targets[place]
	r, over := x.scrape.Result()
	if !over {
		return
	}
	s.results = append(s.results, r)
	s.wheel.Cancel(place)
	if !x.scrape.Reuse() {
		s.hangUp(place)
	}
	x.scrape = nil
}
