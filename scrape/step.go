package scrape

import (
	"slices"

	"odometer/api"
	"odometer/label"
)

// come lets something come at a time: what it does to a scrape that dials, or to one that reads. Too late, it is but the time that came.
func (s *Scrape) come(now int64, dialling, reading func()) {
	if s.State() == api.ScrapeOver {
		return
	}
	defer s.leave()
	s.now = max(s.now, now)
	switch {
	case s.now >= s.last:
		s.end(api.ErrTimeout)
	case s.state == api.ScrapeDialling:
		dialling()
	default:
		reading()
	}
}

// leave tells all of a scrape that is over by now, and lets go of what it needed.
func (s *Scrape) leave() {
	if s.state != api.ScrapeOver {
		return
	}
	s.result.Took = s.now - s.result.At
	l := append(s.result.Samples, s.own()...)
	slices.SortFunc(l, func(a, b api.Sample) int { return label.Compare(a.Name, b.Name) })
	s.result.Samples = l
	s.need = need{}
}

// end: it is over, by an error, or OK.
func (s *Scrape) end(e api.Errno) { s.state, s.result.Err = api.ScrapeOver, e }

// open is the request, to which an answer is read from now on.
func (s *Scrape) open() []byte {
	s.state = api.ScrapeReading
	return []byte(s.request)
}

// letBe is for what does nothing.
func (s *Scrape) letBe() {}

func (s *Scrape) refused() { s.end(api.ErrRefused) }

func (s *Scrape) broke() { s.end(api.ErrReset) }

// closed: the connection ended ahead of all that could be read.
func (s *Scrape) closed() { s.end(api.ErrEnd) }

// read reads bytes of the answer.
func (s *Scrape) read(b []byte) {
	s.answer.Push(b)
	s.look()
}

// readEnd: the connection ended, with which the answer may be whole.
func (s *Scrape) readEnd() {
	s.answer.End()
	s.look()
}

// look: is the answer there, or something wrong with it?
func (s *Scrape) look() {
	if !s.answer.Over() {
		return
	}
	p, e := s.answer.Reply()
	if e == api.OK {
		s.result.Samples, e = s.samples(p.Body)
	}
	s.reuse = e == api.OK && p.Reuse
	s.end(e)
}
