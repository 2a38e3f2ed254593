package scrape

import (
	"math"
	"slices"

	"odometer/api"
	"odometer/check"
	"odometer/expo"
	"odometer/label"
)

// samples are those of an answer's body, each with the target's labels.
func (s *Scrape) samples(body []byte) ([]api.Sample, api.Errno) {
	families, e := expo.Parse(body, s.result.At)
	if e != api.OK {
		return nil, e
	}
	l, e := check.Samples(families)
	if e != api.OK {
		return nil, e
	}
	for i := range l {
		l[i].Name, e = label.With(l[i].Name, s.labels...)
		if e != api.OK {
			return nil, e
		}
	}
	// behind all names: one that takes no labels is told ahead
	if slices.ContainsFunc(l, func(x api.Sample) bool { return x.Name == s.up || x.Name == s.took }) {
		return nil, api.ErrTwice
	}
	return l, api.OK
}

// own are the samples of the target that a scrape which is over tells itself.
func (s *Scrape) own() []api.Sample {
	up := int64(0)
	if s.result.Err == api.OK {
		up = 1
	}
	at := s.result.At
	return []api.Sample{
		{Name: s.took, Value: millionths(s.result.Took), Time: at},
		{Name: s.up, Value: millionths(up), Time: at},
	}
}

// millionths is a number that is not below 0, in millionths; one too great is as great as may be.
func millionths(n int64) int64 {
	if n > math.MaxInt64/api.Micro {
		return math.MaxInt64
	}
	return n * api.Micro
}
