package lex

import (
	"strings"

	"odometer/label"
)

// reader has what is left to be read of a line.
type reader struct{ left string }

// run takes the bytes that stand ahead, as long as they are such.
func (r *reader) run(such func(c byte) bool) string {
	size := 0
	for size < len(r.left) && such(r.left[size]) {
		size++
	}
	taken := r.left[:size]
	r.left = r.left[size:]
	return taken
}

// blanks takes the blanks that stand ahead; true: there are some.
func (r *reader) blanks() bool { return r.run(Blank) != "" }

// word takes all up to the next blank.
func (r *reader) word() string {
	return r.run(func(c byte) bool { return !Blank(c) })
}

// name takes the name that stands ahead, as far as it goes on.
func (r *reader) name() string { return r.run(goesOn) }

// goesOn: does a name go on by c?
func goesOn(c byte) bool {
	switch {
	case 'A' <= c && c <= 'Z':
		c += 'a' - 'A'
		fallthrough
	default:
		return 'a' <= c && c <= 'z' || '0' <= c && c <= '9' || c == '_' || c == ':'
	}
}

// metric takes the metric's name that must stand ahead. It is new memory, as it is answered.
func (r *reader) metric() string {
	name := r.name()
	must(label.IsMetric(name), "no metric's name")
	return strings.Clone(name)
}

// take takes c; true: it stands ahead.
func (r *reader) take(c byte) bool {
	if r.left == "" || r.left[0] != c {
		return false
	}
	r.left = r.left[1:]
	return true
}

// end takes the blanks behind the last part, behind which nothing may stand.
func (r *reader) end() {
	r.blanks()
	must(r.left == "", "something behind the last part")
}
