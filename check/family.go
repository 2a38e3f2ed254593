package check

import (
	"strings"

	"odometer/api"
	"odometer/expo"
	"odometer/label"
)

// The parts that more is asked of than to belong to the family.
const (
	partBucket = "_bucket"
	partCount  = "_count"
)

// sample is a sample, and what its name tells in its family.
type sample struct {
	api.Sample
	part   string
	labels []api.Label
}

// samplesOf are a family's samples, as they came; of each it is told whether it counts.
func samplesOf(f api.Family) ([]api.Sample, api.Errno) {
	var l []sample
	checks := []func() api.Errno{ // in the order in which their errors are told
		func() (e api.Errno) {
			l, e = read(f)
			return e
		},
		func() api.Errno { return signs(l) },
		func() api.Errno {
			if f.Type != api.TypeHistogram {
				return api.OK
			}
			return together(f.Metric, l)
		},
	}
	for _, check := range checks {
		if e := check(); e != api.OK {
			return nil, e
		}
	}
	told := make([]api.Sample, len(l))
	for i, x := range l {
		told[i] = x.Sample
	}
	return told, api.OK
}

// read tells of each sample of a family what its name tells, and whether it counts.
func read(f api.Family) ([]sample, api.Errno) {
	l := make([]sample, len(f.Samples))
	for i, x := range f.Samples {
		metric, labels, e := label.Parse(x.Name)
		if e != api.OK {
			return nil, e
		}
		part, is := expo.Part(f, metric)
		if !is {
			return nil, api.ErrLabel
		}
		x.Name = strings.Clone(x.Name) // what is answered shares no memory with what came in
		x.Counts = counts(f.Type, part)
		l[i] = sample{x, part, labels}
	}
	return l, api.OK
}

// signs tells whether one that counts has a value below 0.
func signs(l []sample) api.Errno {
	for _, x := range l {
		if x.Counts && x.Value < 0 {
			return api.ErrRange
		}
	}
	return api.OK
}
