package expo

import (
	"bytes"

	"odometer/api"
	"odometer/lex"
)

// reader has what was read of an exposition.
type reader struct {
	now      int64
	families []api.Family        // the last one is the current one: the others have ended
	places   map[string]int      // where a metric's family stands among them
	series   map[string]struct{} // those that have a sample
	helped   bool                // had the current one a help?
	typed    bool                // had it a type?
}

// newReader is a reader that has read nothing.
func newReader(now int64) *reader {
	return &reader{now: now, places: make(map[string]int), series: make(map[string]struct{})}
}

// lines reads the lines of a text, up to the first one that has an error.
func (r *reader) lines(text []byte) (wrong api.Errno) {
lines:
	for len(text) > 0 {
		var x api.Line
		x, text, wrong = first(text)
		switch {
		case wrong != api.OK:
			break lines
		case x.Kind == api.LineEmpty, x.Kind == api.LineComment:
			continue lines // it belongs to no family, and ends none
		}
		if wrong = r.line(x); wrong != api.OK {
			break lines
		}
	}
	return wrong
}

// first is the line that stands first in a text, and what stands behind it.
func first(text []byte) (api.Line, []byte, api.Errno) {
	s, behind, ended := bytes.Cut(text, []byte("\n"))
	x, e := lex.Line(string(s))
	if e == api.OK && !ended {
		e = api.ErrLine
	}
	return x, behind, e
}

// line reads a line that belongs to a family.
func (r *reader) line(x api.Line) api.Errno {
	switch x.Kind {
	case api.LineHelp:
		return r.help(x)
	case api.LineType:
		return r.kind(x)
	}
	return r.sample(x)
}

// help reads a family's help.
func (r *reader) help(x api.Line) api.Errno {
	f, e := r.bare(x.Metric)
	switch {
	case e != api.OK:
		return e
	case r.helped:
		return api.ErrTwice
	}
	f.Help, r.helped = x.Text, true
	return api.OK
}

// kind reads a family's type.
func (r *reader) kind(x api.Line) api.Errno {
	f, e := r.bare(x.Metric)
	switch {
	case e != api.OK:
		return e
	case r.typed:
		return api.ErrTwice
	}
	f.Type, _ = TypeOf(x.Text) // lex knows the same words
	r.typed = true
	return api.OK
}

// sample reads a sample.
func (r *reader) sample(x api.Line) api.Errno {
	f, e := r.family(r.owner(x.Metric))
	_, twice := r.series[x.Name]
	switch {
	case e != api.OK:
		return e
	case twice:
		return api.ErrTwice
	case f.Type == api.TypeHistogram && x.Metric == f.Metric:
		return api.ErrType
	case len(r.series) == api.MaxSamples: // each series has one
		return api.ErrLarge
	}
	r.series[x.Name] = struct{}{}
	time := r.now
	if x.Timed {
		time = x.Time
	}
	f.Samples = append(f.Samples, api.Sample{Name: x.Name, Value: x.Value, Time: time})
	return api.OK
}

// owner is the metric of the family to which a sample of a metric belongs.
func (r *reader) owner(metric string) string {
	if len(r.families) > 0 {
		current := r.families[len(r.families)-1]
		if _, is := Part(current, metric); is {
			return current.Metric
		}
	}
	return metric
}

// bare is the family of a metric, as family tells it, if it has no samples.
func (r *reader) bare(metric string) (*api.Family, api.Errno) {
	f, e := r.family(metric)
	if e == api.OK && len(f.Samples) > 0 {
		return nil, api.ErrOrder
	}
	return f, e
}

// family is the family of a metric, which begins if it has not, and is the current one from now on. It stays where it is till another one begins.
func (r *reader) family(metric string) (*api.Family, api.Errno) {
	place, begun := r.places[metric]
	if !begun {
		place = len(r.families)
		r.places[metric] = place
		r.families = append(r.families, api.Family{Metric: metric})
		r.helped, r.typed = false, false
	}
	if place != len(r.families)-1 {
		return nil, api.ErrOrder
	}
	return &r.families[place], api.OK
}
