package window

import (
	"cmp"
	"maps"
	"slices"
	"strings"

	"odometer/api"
)

// Floor is the greatest number of a closed window, be it one that never was open; -1: none is.
func (w *Windows) Floor() int64 {
	if w.isNone() {
		return -1
	}
	return w.floor
}

// Mark is the greatest time that was noted; -1: none was.
func (w *Windows) Mark() int64 {
	if w.isNone() {
		return -1
	}
	return w.mark
}

// Open are the open windows, by rising numbers.
func (w *Windows) Open() []api.Window {
	if w.isNone() {
		return nil
	}
	var open []api.Window
	for _, number := range rising(w.open) {
		open = append(open, w.tell(number))
	}
	return open
}

// Counts is how many gains were credited, how many late.
func (w *Windows) Counts() (credited, late int64) {
	if w.isNone() {
		return 0, 0
	}
	return w.credited, w.late
}

// Copy are windows of the same, which go on apart from w.
func (w *Windows) Copy() *Windows {
	if w.isNone() {
		return nil
	}
	c := &Windows{rule: w.rule, book: w.book, open: map[int64]map[string]sum{}}
	for number, window := range w.open {
		c.open[number] = map[string]sum{}
		for name, x := range window {
			c.open[number][strings.Clone(name)] = x
		}
	}
	return c
}

// Same: have both the same?
func (w *Windows) Same(o *Windows) bool {
	if w.isNone() || o.isNone() {
		return w.isNone() && o.isNone()
	}
	return w.rule == o.rule && w.book == o.book && maps.EqualFunc(w.open, o.open, maps.Equal)
}

// tell is an open window, with its credits by rising names.
func (w *Windows) tell(number int64) api.Window {
	told := api.Window{Number: number}
	for _, name := range rising(w.open[number]) {
		x := w.open[number][name]
		told.Credits = append(told.Credits, api.Credit{Name: strings.Clone(name), Increase: x.increase, Over: x.over})
	}
	return told
}

// rising is what a map's values stand by, in rising order.
func rising[K cmp.Ordered, V any](m map[K]V) []K {
	return slices.Sorted(maps.Keys(m))
}
