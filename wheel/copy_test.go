package wheel_test

import (
	"math"
	"slices"
	"testing"

	"odometer/api"
	"odometer/wheel"
)

// checkSame holds Same to an answer, whichever is asked.
func checkSame(t *testing.T, a, b *wheel.Wheel, want bool) {
	t.Helper()
	if a.Same(b) != want || b.Same(a) != want {
		t.Errorf("Same: %v, %v, want %v", a.Same(b), b.Same(a), want)
	}
}

// P12.3: Copy

func TestCopy(t *testing.T) {
	timers := []api.Fired{at(3, 10), at(1, 20), at(2, 20), at(-1, 500), at(9, api.MaxTime)}
	for many := range len(timers) + 1 {
		w := of(t, 10, timers[:many]...)
		c := w.Copy()
		if c == w {
			t.Error("it is the wheel itself")
		}
		checkSame(t, w, c, true)
		checkTimers(t, c, 10, timers[:many]...)
		checkSame(t, w, c.Copy(), true)
	}
	for _, now := range times() {
		checkTimers(t, wheel.New(now).Copy(), now)
	}
	var none *wheel.Wheel
	if none.Copy() != nil {
		t.Error("a copy of nil")
	}
	checkTimers(t, (&wheel.Wheel{}).Copy(), 0)
}

// apart are things that are done to one of two wheels of time 10 with timers.
func apart() []func(w *wheel.Wheel) {
	return []func(w *wheel.Wheel){
		func(w *wheel.Wheel) { w.Set(7, 10) },
		func(w *wheel.Wheel) { w.Set(7, 20) },
		func(w *wheel.Wheel) { w.Set(7, 30) },
		func(w *wheel.Wheel) { w.Set(1, 21) },
		func(w *wheel.Wheel) { w.Set(1, 10) },
		func(w *wheel.Wheel) { w.Set(2, 600) },
		func(w *wheel.Wheel) { w.Cancel(1) },
		func(w *wheel.Wheel) { w.Cancel(2) },
		func(w *wheel.Wheel) { w.Cancel(3) },
		func(w *wheel.Wheel) { w.Advance(11) },
		func(w *wheel.Wheel) { w.Advance(20) },
		func(w *wheel.Wheel) { w.Advance(math.MaxInt64) },
		func(w *wheel.Wheel) {
			for _, id := range []int{1, 2, 3} {
				w.Cancel(id)
				w.Set(id+3, 20)
			}
		},
	}
}

// What is done to one of both isn't done to the other, be it the copy or not.
func TestApart(t *testing.T) {
	timers := []api.Fired{at(1, 20), at(2, 20), at(3, 21)}
	for i, do := range apart() {
		for _, turned := range []bool{false, true} {
			w := of(t, 10, timers...)
			w.Cancel(3) // a slot with room behind is copied as one without
			set(t, w, at(3, 21))
			c := w.Copy()
			if turned {
				w, c = c, w
			}
			do(w)
			if w.Same(c) || c.Same(w) {
				t.Errorf("%d did nothing", i)
			}
			checkTimers(t, c, 10, timers...)
			was := w.Copy()
			checkAdvance(t, c, 20, at(1, 20), at(2, 20))
			set(t, c, at(8, 20), at(2, 21), at(1, 22))
			checkAdvance(t, c, 500, at(8, 20), at(2, 21), at(3, 21), at(1, 22))
			checkSame(t, w, was, true)
		}
	}
}

// What comes behind a copy's making comes to both alike.
func TestBothGoOn(t *testing.T) {
	for i, do := range apart() {
		for _, other := range apart() {
			w := of(t, 10, at(1, 20), at(2, 20), at(3, 21))
			do(w)
			c := w.Copy()
			other(w)
			other(c)
			checkSame(t, w, c, true)
			if !slices.Equal(w.Advance(30), c.Advance(30)) {
				t.Errorf("behind %d", i)
			}
			checkSame(t, w, c, true)
		}
	}
}

// P12.3: Same

func TestSame(t *testing.T) {
	var none *wheel.Wheel
	checkSame(t, none, nil, true)
	for _, w := range []*wheel.Wheel{{}, wheel.New(0), wheel.New(1), of(t, 0, at(1, 1))} {
		checkSame(t, none, w, false)
		checkSame(t, w, w, true)
	}
	timers := []api.Fired{at(1, 20), at(2, 20), at(3, 21), at(4, 700)}
	w := of(t, 10, timers...)
	checkSame(t, w, of(t, 10, timers...), true)
	for _, now := range []int64{0, 9, 11, 20, -10} {
		checkSame(t, w, of(t, now, timers...), false)
		checkSame(t, wheel.New(10), wheel.New(now), false)
	}
	for i, x := range timers {
		for _, other := range []api.Fired{at(9, x.At), at(-x.ID, x.At), at(x.ID, x.At+1), at(x.ID, x.At-1), at(x.ID, x.At+64), at(x.ID, 10)} {
			l := slices.Clone(timers)
			l[i] = other
			checkSame(t, w, of(t, 10, l...), false)
		}
		checkSame(t, w, of(t, 10, slices.Delete(slices.Clone(timers), i, i+1)...), false)
	}
	checkSame(t, w, of(t, 10, append(slices.Clone(timers), at(5, 20))...), false)
	checkSame(t, w, of(t, 10, append(slices.Clone(timers), at(0, 10))...), false)
	checkSame(t, w, wheel.New(10), false)
	checkSame(t, of(t, 10, at(1, 20), at(2, 21)), of(t, 10, at(1, 21), at(2, 20)), false)
	checkSame(t, of(t, 0, at(0, 0)), wheel.New(0), false)
	checkSame(t, of(t, 0, at(0, 0)), of(t, 0, at(1, 0)), false)
}

// Wheels that were brought to the same timers by unlike ways are the same.
func TestSameByUnlikeWays(t *testing.T) {
	timers := []api.Fired{at(1, 20), at(2, 20), at(3, 21), at(4, 700)}
	w := of(t, 10, timers...)
	turned := slices.Clone(timers)
	slices.Reverse(turned)
	ways := []*wheel.Wheel{of(t, 10, turned...), of(t, -5, timers...), of(t, 0, at(1, 3), at(5, 4), at(2, 10)), of(t, 10, timers...), of(t, 10, at(1, 30), at(2, 30), at(3, 30), at(4, 30), at(5, 30))}
	ways[1].Advance(3)
	ways[1].Advance(10)
	ways[2].Advance(10)
	set(t, ways[2], turned...)
	for _, x := range timers {
		ways[3].Cancel(x.ID)
		set(t, ways[3], at(x.ID, 10), x)
	}
	ways[4].Cancel(5)
	set(t, ways[4], timers...)
	refuse(t, ways[4], at(5, 9), at(1, 9))
	for _, o := range ways {
		checkSame(t, w, o, true)
		for _, p := range ways {
			checkSame(t, o, p, true)
		}
	}
	for _, o := range ways {
		checkAdvance(t, o, 20, at(1, 20), at(2, 20))
		checkSame(t, w, o, false)
		checkTimers(t, o, 20, at(3, 21), at(4, 700))
	}
	// Emptied ones are as those that never had a timer.
	checkAdvance(t, w, 700, timers...)
	checkSame(t, w, wheel.New(700), true)
	zero := &wheel.Wheel{}
	zero.Advance(700)
	checkSame(t, w, zero, true)
}

// What is answered shares no memory with what stays.
func TestNewMemory(t *testing.T) {
	w := of(t, 0, at(1, 5), at(2, 5), at(3, 6), at(4, 70), at(5, 70))
	c := w.Copy()
	one := w.Advance(5)
	for i := range one {
		one[i] = at(99, 99)
	}
	_ = append(one[:0:cap(one)], make([]api.Fired, cap(one))...)
	checkTimers(t, w, 5, at(3, 6), at(4, 70), at(5, 70))
	two := w.Advance(70)
	set(t, w, at(6, 70), at(7, 70), at(1, 71))
	c.Advance(6)
	c.Set(1, 70)
	if want := []api.Fired{at(3, 6), at(4, 70), at(5, 70)}; !slices.Equal(two, want) {
		t.Errorf("%v, want %v", two, want)
	}
	checkTimers(t, c, 6, at(1, 70), at(4, 70), at(5, 70))
}
