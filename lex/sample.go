package lex

import (
	"odometer/api"
	"odometer/fix"
	"odometer/label"
)

// parts are what a sample's line is made of, whatever labels, value and time are.
type parts struct {
	metric string
	labels []api.Label
	value  string
	time   string // no bytes: there is none
}

// sample is what a line is that is neither empty nor has a '#' first.
func (r *reader) sample() api.Line {
	p := r.parts() // all of them ahead of what they are: a line that is none is told first
	name, e := label.Name(p.metric, p.labels...)
	hold(e, "labels that make no series")
	value, e := fix.Parse(p.value)
	hold(e, "a value")
	x := api.Line{Kind: api.LineSample, Metric: p.metric, Name: name, Value: value}
	if p.time != "" {
		x.Time, e = timeOf(p.time)
		hold(e, "a time")
		x.Timed = true
	}
	return x
}

// parts takes the parts of a sample.
func (r *reader) parts() parts {
	p := parts{metric: r.metric()}
	apart := r.blanks()
	if r.take('{') {
		p.labels = r.labels()
		r.blanks()
		apart = true // a '}' is no word, nor a number: no blank need stand behind it
	}
	must(apart, "no blank ahead of a value")
	p.value = r.word()
	must(p.value != "", "no value")
	r.blanks()
	p.time = r.word()
	r.end()
	return p
}

// labels takes labels, and the '}' behind them.
func (r *reader) labels() []api.Label {
	var l []api.Label
	for comma := true; ; comma = r.take(',') {
		r.blanks()
		if r.take('}') {
			return l
		}
		must(comma, "no comma between two labels")
		x := r.label()
		if len(l) <= api.MaxLabels { // one too many is enough to tell
			l = append(l, x)
		}
		r.blanks()
	}
}

// label takes a label, whatever its name is.
func (r *reader) label() api.Label {
	name := r.name()
	must(name != "", "no label's name")
	r.blanks()
	must(r.take('='), "no '=' behind a label's name")
	r.blanks()
	must(r.take('"'), "no '\"' ahead of a label's value")
	return api.Label{Name: name, Value: r.quoted()}
}

// quoted takes a label's value, whose first '"' is taken, and the last '"'.
func (r *reader) quoted() string {
	size := 0
	for size < len(r.left) && r.left[size] != '"' {
		if r.left[size] == '\\' {
			size++ // what stands behind it does not end the value
		}
		size++
	}
	must(size < len(r.left), "a label's value that is not ended")
	value, ok := label.Unescape(r.left[:size])
	must(ok, "a backslash ahead of another byte")
	r.left = r.left[size+1:]
	return value
}

// timeOf is the time of a text.
func timeOf(s string) (int64, api.Errno) {
	r := &reader{s}
	below := r.take('-')
	if r.left == "" {
		return 0, api.ErrNumber
	}
	time := int64(0)
	for i := range len(r.left) {
		c := r.left[i]
		if c < '0' || '9' < c {
			return 0, api.ErrNumber
		}
		if time <= api.MaxTime { // beyond it, more digits tell nothing
			time = time*10 + int64(c-'0')
		}
	}
	if time > api.MaxTime || below && time > 0 {
		return 0, api.ErrRange
	}
	return time, api.OK
}
