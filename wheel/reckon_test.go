package wheel_test

import (
	"cmp"
	"fmt"
	"math"
	"slices"
	"testing"

	"odometer/api"
	"odometer/wheel"
)

// plain is a wheel by the chapter's words: its time, and its timers by rising times, those of one time by rising numbers.
type plain struct {
	now    int64
	timers []api.Fired
}

// risen are timers by rising times, those of one time by rising numbers.
func risen(l []api.Fired) []api.Fired {
	l = slices.Clone(l)
	slices.SortFunc(l, func(a, b api.Fired) int {
		if a.At != b.At {
			return cmp.Compare(a.At, b.At)
		}
		return cmp.Compare(a.ID, b.ID)
	})
	return l
}

func (p *plain) copy() *plain { return &plain{p.now, slices.Clone(p.timers)} }

func (p *plain) set(id int, at int64) api.Errno {
	if at < p.now || at > api.MaxTime {
		return api.ErrArg
	}
	p.cancel(id)
	p.timers = risen(append(p.timers, api.Fired{ID: id, At: at}))
	return api.OK
}

func (p *plain) cancel(id int) bool {
	many := len(p.timers)
	p.timers = slices.DeleteFunc(p.timers, func(x api.Fired) bool { return x.ID == id })
	return len(p.timers) < many
}

func (p *plain) advance(to int64) []api.Fired {
	if to < p.now {
		return nil
	}
	p.now = to
	due := 0
	for due < len(p.timers) && p.timers[due].At <= to {
		due++
	}
	l := slices.Clone(p.timers[:due])
	p.timers = p.timers[due:]
	return l
}

// key is what makes a wheel another one.
func (p *plain) key() string { return fmt.Sprint(p.now, p.timers) }

// step is what is done to a wheel: a timer is set, a number's is cancelled, it goes on to a time.
type step struct {
	what string
	id   int
	at   int64
}

// pair is a wheel, and what it has to be.
type pair struct {
	w *wheel.Wheel
	p *plain
}

func (x pair) copy() pair { return pair{x.w.Copy(), x.p.copy()} }

// do holds what a step answers, and all that is told behind it, against the chapter's words.
func (x pair) do(t *testing.T, s step) []api.Fired {
	t.Helper()
	var got, want []api.Fired
	same := true
	switch s.what {
	case "set":
		same = x.w.Set(s.id, s.at) == x.p.set(s.id, s.at)
	case "cancel":
		same = x.w.Cancel(s.id) == x.p.cancel(s.id)
	case "advance":
		got, want = x.w.Advance(s.at), x.p.advance(s.at)
		same = slices.Equal(got, want)
	}
	if !same {
		t.Fatalf("%v: %v, want %v; behind it %s", s, got, want, x.p.key())
	}
	checkTimers(t, x.w, x.p.now, x.p.timers...)
	for id := -1; id < 5; id++ {
		has := slices.ContainsFunc(x.p.timers, func(y api.Fired) bool { return y.ID == id })
		if at, is := x.w.Get(id); is != has || !is && at != 0 {
			t.Fatalf("Get(%d) = %d, %v behind %v: %s", id, at, is, s, x.p.key())
		}
	}
	if t.Failed() {
		t.Fatalf("behind %v: %s", s, x.p.key())
	}
	return got
}

// steps are some that a wheel of few timers about a time may be put through.
func steps(about int64) []step {
	all := []step{{"cancel", 1, 0}, {"cancel", 2, 0}}
	for _, at := range []int64{-1, 0, 1, 64, 200} {
		all = append(all, step{"set", 1, about + at}, step{"set", 2, about + at}, step{"advance", 0, about + at})
	}
	return all
}

// Short ways of a wheel, all of them, and which of the wheels that they lead to are the same.
func TestShortWays(t *testing.T) {
	for now, many := range map[int64]int{0: 54, 63: 54, -64: 54, api.MaxTime - 100: 30} { // how many wheels the ways lead to
		first := map[string]*wheel.Wheel{} // of each key
		var walk func(x pair, more int)
		walk = func(x pair, more int) {
			key := x.p.key()
			if o := first[key]; o == nil {
				first[key] = x.w.Copy()
			} else if !x.w.Same(o) || !o.Same(x.w) {
				t.Fatalf("two wheels of %s are not the same", key)
			}
			if more == 0 {
				return
			}
			for _, s := range steps(now) {
				y := x.copy()
				y.do(t, s)
				walk(y, more-1)
			}
		}
		walk(pair{wheel.New(now), &plain{now: now}}, 4)
		for key, w := range first {
			for other, o := range first {
				if is := w.Same(o); is != (key == other) {
					t.Fatalf("same %v: %s, and %s", is, key, other)
				}
			}
		}
		if len(first) != many {
			t.Errorf("%d wheels, want %d", len(first), many)
		}
	}
}

// sequence gives numbers below others, the same in each run.
func sequence() func(below int) int {
	state := uint64(1)
	return func(below int) int {
		state = state*6364136223846793005 + 1442695040888963407
		return int(state >> 33 % uint64(below))
	}
}

// Long ways, of copies too: whatever comes, both are the same.
func TestLongWays(t *testing.T) {
	next := sequence()
	spans := []int{2, 70, 1000, 100000, 1 << 30}
	for way := range 200 {
		now := []int64{0, 1000, -5000, math.MinInt64, api.MaxTime - 3000}[way%5]
		wheels := []pair{{wheel.New(now), &plain{now: now}}}
		for range 150 {
			x := wheels[next(len(wheels))]
			span := spans[next(len(spans))]
			s := step{"set", next(20) - 2, x.p.now - 1 + int64(next(span))}
			switch next(10) {
			case 0, 1:
				s.what = "cancel"
			case 2, 3:
				s.what = "advance"
			case 4:
				if len(x.p.timers) > 0 { // to just ahead of a timer, at it, behind it
					s = step{"advance", 0, x.p.timers[next(len(x.p.timers))].At - 1 + int64(next(3))}
				}
			}
			x.do(t, s)
			if len(wheels) < 4 && next(20) == 0 {
				wheels = append(wheels, x.copy())
			}
			o := wheels[next(len(wheels))]
			if is, want := x.w.Same(o.w), x.p.key() == o.p.key(); is != want {
				t.Fatalf("same %v: %s, and %s", is, x.p.key(), o.p.key())
			}
		}
	}
}

// P12.4

// However a way is cut into advances, the same is told, in the same order.
func TestCuts(t *testing.T) {
	next := sequence()
	for way := range 300 {
		now := []int64{0, 77, -700, api.MaxTime - 2000}[way%4]
		var timers []api.Fired
		for id := range next(40) {
			timers = append(timers, at(id*7%40, now+int64(next([]int{10, 300, 2000}[way%3]))))
		}
		whole := of(t, now, timers...)
		end := now + 2000
		for _, step := range []int64{1, 2, 63, 64, 65, 100, 1999, 2000} {
			w, told := whole.Copy(), []api.Fired{}
			for to := now; to <= end; to += step {
				told = append(told, w.Advance(to)...)
				told = append(told, w.Advance(to)...) // nothing is told twice
			}
			told = append(told, w.Advance(end)...)
			if !slices.Equal(told, risen(timers)) {
				t.Fatalf("by %d: %v, want %v", step, told, risen(timers))
			}
			checkTimers(t, w, end)
		}
		w, told := whole.Copy(), []api.Fired{}
		for to := now; w.Len() > 0; to += int64(next(200)) {
			told = append(told, w.Advance(to)...)
		}
		if one := whole.Advance(end); !slices.Equal(told, one) || !slices.Equal(one, risen(timers)) {
			t.Fatalf("%v, at once %v", told, one)
		}
	}
}

// From timer to timer by Next, each is told in the advance that reaches it.
func TestByNext(t *testing.T) {
	next := sequence()
	for range 100 {
		w := wheel.New(0)
		var want, told []api.Fired
		for id := range 30 {
			far := int64(next(64)) << next(45)
			set(t, w, at(id, far))
			want = append(want, at(id, far))
		}
		for when, is := w.Next(); is; when, is = w.Next() {
			if l := w.Advance(when - 1); len(l) != 0 {
				t.Fatalf("%v ahead of %d", l, when)
			}
			l := w.Advance(when)
			if len(l) == 0 || l[0].At != when {
				t.Fatalf("%v at %d", l, when)
			}
			told = append(told, l...)
		}
		if !slices.Equal(told, risen(want)) {
			t.Fatalf("%v, want %v", told, risen(want))
		}
	}
}

// Each timer that was set, and neither moved nor cancelled, is told once, in the advance that reaches it.
func TestEachOnce(t *testing.T) {
	next := sequence()
	for range 200 {
		w := wheel.New(0)
		waits := map[int]int64{}
		for range 200 {
			switch id := next(12); next(4) {
			case 0, 1:
				when := w.Now() + int64(next(300))
				set(t, w, at(id, when))
				waits[id] = when
			case 2:
				w.Cancel(id)
				delete(waits, id)
			default:
				to := w.Now() + int64(next(150))
				for _, x := range w.Advance(to) {
					if when, is := waits[x.ID]; !is || when != x.At || when > to {
						t.Fatalf("%v was told at %d", x, to)
					}
					delete(waits, x.ID)
				}
				for id, when := range waits {
					if when <= to {
						t.Fatalf("%d at %d was not told at %d", id, when, to)
					}
				}
			}
			if w.Len() != len(waits) {
				t.Fatalf("%d timers, want %d", w.Len(), len(waits))
			}
		}
	}
}

// It ends, however many there are, of one time or of many.
func TestMany(t *testing.T) {
	const many = 100000
	one, all := wheel.New(0), wheel.New(0)
	for i := range many {
		id := i * 7919 % many
		set(t, one, at(id, 500))
		set(t, all, at(id, int64(id)*1000))
	}
	for i := range many / 2 {
		if !one.Cancel(i*2) || !all.Cancel(i*2) {
			t.Fatalf("%d had none", i*2)
		}
	}
	told := one.Advance(500)
	for to := int64(0); to < many*1000; to += 999 {
		told = append(told, all.Advance(to)...)
	}
	told = append(told, all.Advance(many*1000)...)
	if len(told) != many || one.Len() != 0 || all.Len() != 0 {
		t.Fatalf("%d were told, %d and %d are left", len(told), one.Len(), all.Len())
	}
	for i := range many / 2 {
		if id := 2*i + 1; told[i] != at(id, 500) || told[many/2+i] != at(id, int64(id)*1000) {
			t.Fatalf("%v and %v at %d", told[i], told[many/2+i], i)
		}
	}
}
