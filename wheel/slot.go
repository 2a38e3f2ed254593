package wheel

import (
	"slices"

	"odometer/api"
)

// slotBits is how many of the low bits of a time tell timers of one slot apart.
const slotBits = 6

// place is where a timer stands: in which slot, and where there.
type place struct {
	part  int64
	index int
}

// partOf is the part of a time by which its slot stands. Parts rise with times, below 0 too.
func partOf(at int64) int64 { return at >> slotBits }

// put puts a timer into its slot. Its number has none.
func (w *Wheel) put(x api.Fired) {
	if w.slots == nil {
		w.slots, w.places = map[int64][]api.Fired{}, map[int]place{}
	}
	part := partOf(x.At)
	w.places[x.ID] = place{part, len(w.slots[part])}
	w.slots[part] = append(w.slots[part], x)
}

// take takes the number's timer out of its slot. It has one.
func (w *Wheel) take(id int) {
	p := w.places[id]
	slot := w.slots[p.part]
	last := len(slot) - 1
	slot[p.index] = slot[last] // so that no other timer's place changes: a slot may be long
	w.places[slot[p.index].ID] = p
	delete(w.places, id)
	if last == 0 {
		delete(w.slots, p.part)
		return
	}
	w.slots[p.part] = slot[:last]
}

// reach are all timers at a time, or ahead of it, in their order.
func (w *Wheel) reach(to int64) []api.Fired {
	due := func(x api.Fired) bool { return x.At <= to }
	var l []api.Fired
	for _, part := range w.parts(partOf(to)) {
		for _, x := range w.slots[part] {
			if due(x) {
				l = append(l, x)
			}
		}
	}
	slices.SortFunc(l, compare)
	return l
}

// parts are those of all slots up to a last one, in any order.
func (w *Wheel) parts(last int64) []int64 {
	var l []int64
	first := partOf(w.now)
	if last-first >= int64(len(w.slots)) { // a long way has more parts than there are slots
		for part := range w.slots {
			if part <= last {
				l = append(l, part)
			}
		}
		return l
	}
	for part := first; part <= last; part++ {
		if len(w.slots[part]) > 0 {
			l = append(l, part)
		}
	}
	return l
}
