package wheel_test

import (
	"math"
	"slices"
	"testing"

	"odometer/api"
	"odometer/wheel"
)

// at is a timer of a number at a time.
func at(id int, at int64) api.Fired { return api.Fired{ID: id, At: at} }

// of is a wheel of a time with timers, set in this order.
func of(t *testing.T, now int64, timers ...api.Fired) *wheel.Wheel {
	t.Helper()
	w := wheel.New(now)
	set(t, w, timers...)
	return w
}

// set sets timers that may be.
func set(t *testing.T, w *wheel.Wheel, timers ...api.Fired) {
	t.Helper()
	for _, x := range timers {
		if e := w.Set(x.ID, x.At); e != api.OK {
			t.Fatalf("Set(%d, %d) = %v", x.ID, x.At, e)
		}
	}
}

// refuse holds that a timer is refused, and that this changes nothing.
func refuse(t *testing.T, w *wheel.Wheel, timers ...api.Fired) {
	t.Helper()
	for _, x := range timers {
		was := w.Copy()
		before, had := w.Get(x.ID)
		if e := w.Set(x.ID, x.At); e != api.ErrArg {
			t.Errorf("Set(%d, %d) = %v", x.ID, x.At, e)
		}
		behind, has := w.Get(x.ID)
		if before != behind || had != has || !w.Same(was) || w.Len() != was.Len() || w.Now() != was.Now() {
			t.Errorf("a refused Set(%d, %d) changed the wheel", x.ID, x.At)
		}
	}
}

// checkTimers holds a wheel to its time and timers (by rising times, and numbers), by all that can be told without a change.
func checkTimers(t *testing.T, w *wheel.Wheel, now int64, timers ...api.Fired) {
	t.Helper()
	if w.Now() != now {
		t.Errorf("Now() = %d, want %d", w.Now(), now)
	}
	if w.Len() != len(timers) {
		t.Errorf("Len() = %d, want %d", w.Len(), len(timers))
	}
	for _, x := range timers {
		if got, is := w.Get(x.ID); got != x.At || !is {
			t.Errorf("Get(%d) = %d, %v, want %d", x.ID, got, is, x.At)
		}
	}
	next, is := w.Next()
	if len(timers) == 0 {
		if next != 0 || is {
			t.Errorf("Next() = %d, %v of none", next, is)
		}
	} else if next != timers[0].At || !is {
		t.Errorf("Next() = %d, %v, want %d", next, is, timers[0].At)
	}
	if got := w.Copy().Advance(math.MaxInt64); !slices.Equal(got, timers) {
		t.Errorf("all of them: %v, want %v", got, timers)
	}
}

// checkNone holds that numbers have no timer.
func checkNone(t *testing.T, w *wheel.Wheel, ids ...int) {
	t.Helper()
	for _, id := range ids {
		if got, is := w.Get(id); got != 0 || is {
			t.Errorf("Get(%d) = %d, %v", id, got, is)
		}
		if w.Cancel(id) {
			t.Errorf("Cancel(%d) had one", id)
		}
	}
}

// checkAdvance holds Advance to what it tells, and to the time behind it.
func checkAdvance(t *testing.T, w *wheel.Wheel, to int64, want ...api.Fired) {
	t.Helper()
	if got := w.Advance(to); !slices.Equal(got, want) {
		t.Errorf("Advance(%d) = %v, want %v", to, got, want)
	}
	if w.Now() != to {
		t.Errorf("Now() = %d behind Advance(%d)", w.Now(), to)
	}
	for _, x := range want {
		checkNone(t, w, x.ID)
	}
}

// times are some about which a wheel may stand.
func times() []int64 {
	return []int64{math.MinInt64, math.MinInt64 + 1, -api.MaxTime, -1000000, -65, -64, -63, -1, 0, 1, 63, 64, 65, 100, 4095, 4096, 1000000, 1<<32 - 1, 1 << 32, api.MaxTime - 1, api.MaxTime, api.MaxTime + 1, math.MaxInt64 - 1, math.MaxInt64}
}

// ids are numbers, small and great, rising.
func ids() []int {
	return []int{math.MinInt, math.MinInt + 1, -65, -1, 0, 1, 2, 64, math.MaxInt - 1, math.MaxInt}
}

// P12.1: New

func TestNew(t *testing.T) {
	for _, now := range times() {
		w := wheel.New(now)
		checkTimers(t, w, now)
		checkNone(t, w, ids()...)
		if !w.Same(wheel.New(now)) || wheel.New(now) == w {
			t.Errorf("two of time %d", now)
		}
		if now > api.MaxTime {
			refuse(t, w, at(1, now), at(1, now-1), at(1, api.MaxTime), at(1, math.MaxInt64))
			checkTimers(t, w, now)
			continue
		}
		set(t, w, at(1, now))
		checkTimers(t, w, now, at(1, now))
		set(t, w, at(2, api.MaxTime))
		checkTimers(t, w, now, at(1, now), at(2, api.MaxTime))
		checkAdvance(t, w, now, slices.DeleteFunc([]api.Fired{at(1, now), at(2, api.MaxTime)}, func(x api.Fired) bool { return x.At > now })...)
	}
}

func TestZero(t *testing.T) {
	zero := func() *wheel.Wheel { return &wheel.Wheel{} }
	checkTimers(t, zero(), 0)
	checkNone(t, zero(), ids()...)
	if !zero().Same(wheel.New(0)) || !wheel.New(0).Same(zero()) || zero().Same(wheel.New(1)) || wheel.New(-1).Same(zero()) {
		t.Error("a zero wheel is New(0)")
	}
	w := zero()
	refuse(t, w, at(1, -1), at(1, api.MaxTime+1))
	set(t, w, at(1, 0), at(2, 7))
	checkTimers(t, w, 0, at(1, 0), at(2, 7))
	checkAdvance(t, w, 6, at(1, 0))
	w = zero()
	checkAdvance(t, w, 5)
	refuse(t, w, at(1, 4))
	set(t, w, at(1, 5))
	checkTimers(t, w, 5, at(1, 5))
	var value wheel.Wheel
	set(t, &value, at(3, 9))
	checkTimers(t, value.Copy(), 0, at(3, 9))
	if l := zero().Advance(-1); len(l) != 0 {
		t.Error(l)
	}
}

// P12.1: Set

func TestSetTimes(t *testing.T) {
	for _, now := range times() {
		for _, when := range times() {
			w := wheel.New(now)
			if now <= when && when <= api.MaxTime {
				set(t, w, at(1, when))
				checkTimers(t, w, now, at(1, when))
				continue
			}
			refuse(t, w, at(1, when))
			checkTimers(t, w, now)
			checkNone(t, w, 1)
		}
	}
}

func TestSetAtTheEdges(t *testing.T) {
	w := of(t, 100, at(1, 100))
	refuse(t, w, at(1, 99), at(2, 99), at(2, 0), at(2, -1), at(2, math.MinInt64), at(1, api.MaxTime+1), at(2, api.MaxTime+1), at(2, math.MaxInt64))
	set(t, w, at(2, api.MaxTime), at(3, 101))
	checkTimers(t, w, 100, at(1, 100), at(3, 101), at(2, api.MaxTime))
	checkAdvance(t, w, 163, at(1, 100), at(3, 101))
	refuse(t, w, at(1, 162), at(1, 100), at(2, 162))
	set(t, w, at(1, 163))
	checkTimers(t, w, 163, at(1, 163), at(2, api.MaxTime))
	checkAdvance(t, w, api.MaxTime, at(1, 163), at(2, api.MaxTime))
	refuse(t, w, at(1, api.MaxTime-1), at(1, api.MaxTime+1))
	set(t, w, at(1, api.MaxTime))
	checkAdvance(t, w, api.MaxTime, at(1, api.MaxTime))
	checkAdvance(t, w, api.MaxTime+1)
	refuse(t, w, at(1, api.MaxTime), at(1, api.MaxTime+1), at(1, api.MaxTime+2))
	checkTimers(t, w, api.MaxTime+1)
}

// A number's timer that is moved, wherever from and to, stands there alone.
func TestMove(t *testing.T) {
	others := []api.Fired{at(10, 50), at(11, 200), at(12, 200), at(13, 5000), at(14, api.MaxTime)}
	whens := []int64{50, 51, 63, 64, 127, 128, 199, 200, 201, 5000, 5001, 1 << 40, api.MaxTime}
	for _, from := range whens {
		for _, to := range whens {
			for place := range len(others) + 1 {
				w := of(t, 50, slices.Insert(slices.Clone(others), place, at(1, from))...)
				set(t, w, at(1, to))
				checkTimers(t, w, 50, risen(append(slices.Clone(others), at(1, to)))...)
				refuse(t, w, at(1, 49), at(1, api.MaxTime+1))
				checkTimers(t, w, 50, risen(append(slices.Clone(others), at(1, to)))...)
				set(t, w, at(1, from), at(1, from))
				checkTimers(t, w, 50, risen(append(slices.Clone(others), at(1, from)))...)
				if !w.Cancel(1) {
					t.Error("it had one")
				}
				checkTimers(t, w, 50, others...)
			}
		}
	}
}

func TestNumbers(t *testing.T) {
	w := wheel.New(0)
	var want []api.Fired
	for i, id := range ids() {
		set(t, w, at(id, 1000-int64(i)*70))
		want = append(want, at(id, 1000-int64(i)*70))
		checkTimers(t, w, 0, risen(want)...)
	}
	for i, id := range ids() {
		set(t, w, at(id, 500))
		want[i].At = 500
		checkTimers(t, w, 0, risen(want)...)
	}
	checkNone(t, w, math.MinInt+2, -2, 3, 63, 65, math.MaxInt-2)
	for i, id := range ids() {
		if !w.Cancel(id) {
			t.Errorf("Cancel(%d)", id)
		}
		checkNone(t, w, ids()[:i+1]...)
		checkTimers(t, w, 0, want[i+1:]...)
	}
}

// P12.1: Cancel, Get, Len

func TestCancel(t *testing.T) {
	timers := []api.Fired{at(-3, 10), at(1, 10), at(7, 10), at(2, 70), at(5, 71), at(4, 100000)}
	for i, x := range timers {
		w := of(t, 10, timers...)
		checkNone(t, w, 0, 3, 6, 8, 10, 70, -1)
		if !w.Cancel(x.ID) {
			t.Errorf("Cancel(%d) had none", x.ID)
		}
		less := slices.Delete(slices.Clone(timers), i, i+1)
		checkNone(t, w, x.ID)
		checkTimers(t, w, 10, less...)
		set(t, w, x)
		checkTimers(t, w, 10, timers...)
		w.Cancel(x.ID)
		var told []api.Fired
		for _, y := range less {
			if y.At <= 71 {
				told = append(told, y)
			}
		}
		checkAdvance(t, w, 71, told...)
		checkNone(t, w, x.ID)
	}
}

func TestCancelOfToldOnes(t *testing.T) {
	w := of(t, 0, at(1, 5), at(2, 6), at(3, 7))
	checkAdvance(t, w, 6, at(1, 5), at(2, 6))
	checkNone(t, w, 1, 2)
	checkTimers(t, w, 6, at(3, 7))
	set(t, w, at(1, 6))
	checkTimers(t, w, 6, at(1, 6), at(3, 7))
	if !w.Cancel(1) || w.Cancel(1) || !w.Cancel(3) {
		t.Error("cancels")
	}
	checkTimers(t, w, 6)
	set(t, w, at(9, 9)) // a wheel that was emptied takes timers again
	checkTimers(t, w, 6, at(9, 9))
}

// P12.1, P12.2: nil

func TestNil(t *testing.T) {
	var w *wheel.Wheel
	for _, when := range times() {
		if e := w.Set(1, when); e != api.ErrNil {
			t.Errorf("Set(1, %d) = %v", when, e)
		}
		if l := w.Advance(when); len(l) != 0 {
			t.Errorf("Advance(%d) = %v", when, l)
		}
	}
	checkNone(t, w, ids()...)
	if next, is := w.Next(); next != 0 || is {
		t.Errorf("Next() = %d, %v", next, is)
	}
	if w.Now() != 0 || w.Len() != 0 || w.Copy() != nil {
		t.Errorf("%d, %d, %v", w.Now(), w.Len(), w.Copy())
	}
}

// P12.2: Next

func TestNext(t *testing.T) {
	w := of(t, 0, at(1, 1000))
	checkTimers(t, w, 0, at(1, 1000))
	set(t, w, at(2, 999))
	checkTimers(t, w, 0, at(2, 999), at(1, 1000))
	set(t, w, at(3, 0), at(4, api.MaxTime))
	checkTimers(t, w, 0, at(3, 0), at(2, 999), at(1, 1000), at(4, api.MaxTime))
	set(t, w, at(3, 2000)) // the first one moves behind others
	checkTimers(t, w, 0, at(2, 999), at(1, 1000), at(3, 2000), at(4, api.MaxTime))
	set(t, w, at(4, 998)) // the last one moves ahead of all
	checkTimers(t, w, 0, at(4, 998), at(2, 999), at(1, 1000), at(3, 2000))
	w.Cancel(4)
	checkTimers(t, w, 0, at(2, 999), at(1, 1000), at(3, 2000))
	checkAdvance(t, w, 999, at(2, 999))
	checkTimers(t, w, 999, at(1, 1000), at(3, 2000))
	refuse(t, w, at(1, 998))
	checkTimers(t, w, 999, at(1, 1000), at(3, 2000))
	checkAdvance(t, w, 1<<40, at(1, 1000), at(3, 2000))
	checkTimers(t, w, 1<<40)
	checkTimers(t, of(t, math.MinInt64, at(1, 0), at(2, -1), at(3, math.MinInt64)), math.MinInt64, at(3, math.MinInt64), at(2, -1), at(1, 0))
	checkTimers(t, of(t, -200, at(1, -64), at(2, -65), at(3, -1), at(4, 0)), -200, at(2, -65), at(1, -64), at(3, -1), at(4, 0))
	checkTimers(t, of(t, api.MaxTime, at(1, api.MaxTime)), api.MaxTime, at(1, api.MaxTime))
}

// P12.2: Advance, Now

func TestExample(t *testing.T) {
	w := of(t, 0, at(3, 10), at(1, 10), at(2, 4), at(5, 11))
	checkAdvance(t, w, 10, at(2, 4), at(1, 10), at(3, 10))
	checkTimers(t, w, 10, at(5, 11))
}

// To a time below now, nothing happens, whether timers are due or not.
func TestAdvanceBelow(t *testing.T) {
	for _, now := range times() {
		w := wheel.New(now)
		if now <= api.MaxTime {
			set(t, w, at(1, now), at(2, api.MaxTime))
		}
		was := w.Copy()
		for _, to := range times() {
			if to >= now {
				continue
			}
			if l := w.Advance(to); len(l) != 0 || w.Now() != now || !w.Same(was) {
				t.Errorf("Advance(%d) of time %d: %v, now %d", to, now, l, w.Now())
			}
		}
	}
}

func TestAdvanceAboutTimers(t *testing.T) {
	for _, now := range []int64{-1000, 0, 1, 63, 64, 100, 1 << 40, api.MaxTime - 500} {
		for _, far := range []int64{1, 2, 27, 63, 64, 65, 100, 128, 500} {
			timers := []api.Fired{at(1, now), at(2, now+far), at(3, min(now+1000, api.MaxTime))}
			for _, to := range []int64{now, now + 1, now + far/2, now + far - 1, now + far, now + far + 1, now + 499} {
				w := of(t, now, timers...)
				i := slices.IndexFunc(timers, func(x api.Fired) bool { return x.At > to })
				if i < 0 {
					i = len(timers)
				}
				checkAdvance(t, w, to, timers[:i]...)
				checkTimers(t, w, to, timers[i:]...)
				checkAdvance(t, w, to)
				checkTimers(t, w, to, timers[i:]...)
			}
		}
	}
}

func TestAdvanceFar(t *testing.T) {
	timers := []api.Fired{at(6, 0), at(5, 63), at(4, 64), at(3, 1<<20), at(2, 1<<40), at(1, api.MaxTime)}
	for i := range timers {
		for _, to := range []int64{timers[i].At - 1, timers[i].At} {
			if to < 0 {
				continue
			}
			w := of(t, 0, timers...)
			many := i
			if to == timers[i].At {
				many++
			}
			checkAdvance(t, w, to, timers[:many]...)
			checkTimers(t, w, to, timers[many:]...)
			checkAdvance(t, w, math.MaxInt64, timers[many:]...)
			checkTimers(t, w, math.MaxInt64)
			checkAdvance(t, w, math.MaxInt64)
		}
	}
	for _, to := range []int64{api.MaxTime, api.MaxTime + 1, 1 << 60, math.MaxInt64} {
		w := of(t, 0, timers...)
		checkAdvance(t, w, to, timers...)
		checkTimers(t, w, to)
		refuse(t, of(t, to), at(1, to-1))
		w = of(t, math.MinInt64, at(1, math.MinInt64), at(2, -64), at(3, 0))
		checkAdvance(t, w, to, at(1, math.MinInt64), at(2, -64), at(3, 0))
		checkAdvance(t, wheel.New(math.MinInt64), to)
	}
}

// Below 0, times rise as above it.
func TestAdvanceBelowZero(t *testing.T) {
	timers := []api.Fired{at(9, -130), at(8, -129), at(7, -128), at(6, -127), at(5, -65), at(4, -64), at(3, -63), at(2, -1), at(1, 0), at(0, 1)}
	for i := range len(timers) {
		w := of(t, -200, timers...)
		checkAdvance(t, w, timers[i].At, timers[:i+1]...)
		checkTimers(t, w, timers[i].At, timers[i+1:]...)
	}
}

// Timers of one time are told by rising numbers, in whichever order they were set.
func TestOneTime(t *testing.T) {
	var want []api.Fired
	for _, id := range ids() {
		want = append(want, at(id, 77))
	}
	next := sequence()
	for range 300 {
		order := slices.Clone(want)
		for i := range order {
			j := i + next(len(order)-i)
			order[i], order[j] = order[j], order[i]
		}
		w := of(t, 5, order...)
		for _, x := range order[:next(len(order))] { // some are moved, and back
			set(t, w, at(x.ID, 6+int64(next(1000))), x)
		}
		checkAdvance(t, w, 76)
		checkAdvance(t, w, 77, want...)
		checkTimers(t, w, 77)
	}
}

// A timer that was told may be set again, at the very time too, and is told again.
func TestSetAgain(t *testing.T) {
	w := of(t, 0, at(1, 10), at(2, 20))
	checkAdvance(t, w, 10, at(1, 10))
	for now := int64(10); now < 1000; now += 10 {
		refuse(t, w, at(1, now-1))
		set(t, w, at(1, now))
		checkAdvance(t, w, now, at(1, now))
		checkAdvance(t, w, now)
		set(t, w, at(1, now+10), at(2, now+10))
		checkTimers(t, w, now, at(1, now+10), at(2, now+10))
		checkAdvance(t, w, now+9)
		checkAdvance(t, w, now+10, at(1, now+10), at(2, now+10))
	}
}
