package window_test

import (
	"fmt"
	"maps"
	"math/big"
	"slices"
	"testing"

	"odometer/api"
	"odometer/window"
)

// plain are windows by the chapter's words: all gains that were credited to those that are open, each with its window, and which windows closed.
type plain struct {
	length, lateness int64
	most             int
	mark             int64
	floor            int64
	held             []held
	credited, late   int64
}

type held struct {
	number int64
	gain   api.Gain
}

func (p *plain) copy() *plain {
	c := *p
	c.held = slices.Clone(p.held)
	return &c
}

// numbers are those of the open windows, by rising numbers.
func (p *plain) numbers() []int64 {
	var l []int64
	for _, x := range p.held {
		l = append(l, x.number)
	}
	slices.Sort(l)
	return slices.Compact(l)
}

// window is what is credited in a window.
func (p *plain) window(number int64) api.Window {
	sums := map[string]*big.Int{}
	var names []string
	for _, x := range p.held {
		if x.number != number {
			continue
		}
		name := x.gain.Name
		if sums[name] == nil {
			sums[name] = new(big.Int)
			names = append(names, name)
		}
		sums[name].Add(sums[name], big.NewInt(x.gain.Increase))
	}
	slices.Sort(names)
	w := of(number)
	for _, name := range names {
		if sums[name].IsInt64() {
			w.Credits = append(w.Credits, credit(name, sums[name].Int64()))
		} else {
			w.Credits = append(w.Credits, over(name))
		}
	}
	return w
}

func (p *plain) open() []api.Window {
	var l []api.Window
	for _, number := range p.numbers() {
		l = append(l, p.window(number))
	}
	return l
}

// close closes one window, be it open or not.
func (p *plain) close(number int64) []api.Window {
	var l []api.Window
	if slices.Contains(p.numbers(), number) {
		l = append(l, p.window(number))
	}
	p.held = slices.DeleteFunc(p.held, func(x held) bool { return x.number == number })
	p.floor = max(p.floor, number)
	return l
}

func (p *plain) note(time int64) {
	if time >= 0 && time <= api.MaxTime {
		p.mark = max(p.mark, time)
	}
}

func (p *plain) add(g api.Gain) (bool, []api.Window) {
	if g.Time < 0 || g.Time > api.MaxTime || g.Increase < 0 {
		p.late++
		return true, nil
	}
	number := int64(0)
	for (number+1)*p.length <= g.Time {
		number++
	}
	all := p.numbers()
	full := len(all) == p.most && !slices.Contains(all, number)
	if number <= p.floor || full && number < all[0] {
		p.late++
		return true, nil
	}
	var closed []api.Window
	if full {
		closed = p.close(all[0])
	}
	p.held = append(p.held, held{number, g})
	p.credited++
	return false, closed
}

// clock closes window behind window, as long as its end and the lateness are not above the watermark.
func (p *plain) clock(now int64) []api.Window {
	watermark := min(p.mark, now)
	var closed []api.Window
	for number := int64(0); (number+1)*p.length+p.lateness <= watermark; number++ {
		closed = append(closed, p.close(number)...)
	}
	return closed
}

func (p *plain) look() look { return look{p.floor, p.mark, p.credited, p.late} }

// key is what makes windows others.
func (p *plain) key() string {
	return fmt.Sprintf("%d %d %d %+v %q", p.length, p.lateness, p.most, p.look(), fmt.Sprintf("%+v", p.open()))
}

// step is what is done to windows: a gain is added, a time is noted, a clock is read.
type step struct {
	what string
	time int64
	gain api.Gain
}

// pair are windows, and what they have to be.
type pair struct {
	w *window.Windows
	p *plain
}

func (x pair) copy() pair { return pair{x.w.Copy(), x.p.copy()} }

// begin are windows without anything.
func begin(t *testing.T, length, lateness int64, many int) pair {
	t.Helper()
	return pair{open(t, length, lateness, many), &plain{length: length, lateness: lateness, most: many, mark: -1, floor: -1}}
}

// do holds what a step answers, and all that is told behind it, to the chapter's words; it tells whether a gain was late, and which windows closed.
func (x pair) do(t *testing.T, s step) (bool, []api.Window) {
	t.Helper()
	var late, wantLate bool
	var got, want []api.Window
	switch s.what {
	case "add":
		late, got = x.w.Add(s.gain)
		wantLate, want = x.p.add(s.gain)
	case "note":
		x.w.Note(s.time)
		x.p.note(s.time)
	case "clock":
		got, want = x.w.Clock(s.time), x.p.clock(s.time)
	}
	if late != wantLate || !same(got, want) {
		t.Fatalf("%v: %v, %v, want %v, %v; behind it %s", s, late, got, wantLate, want, x.p.key())
	}
	checkLook(t, x.w, x.p.look(), x.p.open()...)
	if t.Failed() {
		t.Fatalf("behind %v: %s", s, x.p.key())
	}
	return late, got
}

// steps are some that windows of length 2 may be put through.
func steps() []step {
	var all []step
	for _, time := range []int64{-1, 0, 3, 4, 7} {
		all = append(all, step{what: "add", gain: at("a", time, 1)})
	}
	all = append(all, step{what: "add", gain: at("b", 3, most)})
	for _, time := range []int64{2, 5, 9} {
		all = append(all, step{what: "note", time: time}, step{what: "clock", time: time})
	}
	return all
}

// Short ways of windows, all of them, and which of the windows that they lead to are the same.
func TestShortWays(t *testing.T) {
	for many := 1; many <= 3; many++ {
		first := map[string]*window.Windows{} // of each key
		var walk func(x pair, more int)
		walk = func(x pair, more int) {
			key := x.p.key()
			if o := first[key]; o == nil {
				first[key] = x.w.Copy()
			} else if !x.w.Same(o) || !o.Same(x.w) {
				t.Fatalf("two windows of %s are not the same", key)
			}
			if more == 0 {
				return
			}
			for _, s := range steps() {
				y := x.copy()
				y.do(t, s)
				walk(y, more-1)
			}
		}
		walk(begin(t, 2, int64(many-1), many), 4)
		for key, w := range first {
			for other, o := range first {
				if is := w.Same(o); is != (key == other) {
					t.Fatalf("same %v: %s, and %s", is, key, other)
				}
			}
		}
		if len(first) < 400 {
			t.Fatalf("%d windows alone", len(first))
		}
	}
}

// sequence gives numbers below others, the same in each run.
func sequence() func(below int) int {
	state := uint64(1)
	return func(below int) int {
		state = state*6364136223846793005 + 1442695040888963407
		return int(state >> 33 % uint64(below))
	}
}

// draw is a step about a time.
func draw(next func(int) int, about int64) step {
	time := about + int64(next(40)) - 20
	if next(30) == 0 {
		time = []int64{least, -1, -about, 0}[next(4)]
	}
	switch next(6) {
	case 0:
		return step{what: "note", time: []int64{time, time, api.MaxTime + 1 + about, most}[next(4)]}
	case 1:
		return step{what: "clock", time: []int64{time, time, time, most}[next(4)]}
	}
	words := []string{"a", "b", "c", "", "a{b=\"1\"}", "b{", "\xff", "none of these"}
	g := at(words[next(len(words))], time, int64(next(100)))
	switch next(20) {
	case 0, 1:
		g.Increase = []int64{-1, least, most, most - 1, 1 << 62, 0}[next(6)]
	case 2:
		g.Time = []int64{api.MaxTime + 1, most}[next(2)]
	case 3:
		g.Reset = true
	}
	return step{what: "add", gain: g}
}

// Long ways, of copies too.
func TestLongWays(t *testing.T) {
	next := sequence()
	closedBy, late, credited, marked := map[string]int{}, 0, 0, 0
	for range 400 {
		all := []pair{begin(t, int64(1+next(12)), int64(next(4)*next(8)), 1+next(6))}
		for i := range 150 {
			x := all[next(len(all))]
			s := draw(next, int64(i))
			is, closed := x.do(t, s)
			closedBy[s.what] += len(closed)
			if s.what == "add" && is {
				late++
			} else if s.what == "add" {
				credited++
			}
			for _, w := range closed {
				if slices.ContainsFunc(w.Credits, func(c api.Credit) bool { return c.Over }) {
					marked++
				}
			}
			if len(all) < 4 && next(20) == 0 {
				all = append(all, x.copy())
			}
			o := all[next(len(all))]
			if is, want := x.w.Same(o.w), x.p.key() == o.p.key(); is != want {
				t.Fatalf("same %v: %s, and %s", is, x.p.key(), o.p.key())
			}
		}
	}
	if min(closedBy["add"], closedBy["clock"], late, credited) < 1000 || marked < 100 {
		t.Errorf("some came seldom: %v, %d late, %d credited, %d marked", closedBy, late, credited, marked)
	}
}

// place is a series in a window.
type place struct {
	name   string
	number int64
}

// P18.5 (and P0.2, P0.4): each gain is credited to one window, or late; windows close by rising numbers, each once; there never are more open ones than may be.
func TestEachGainOnce(t *testing.T) {
	next := sequence()
	for range 200 {
		many, length := 1+next(8), int64(1+next(20))
		w := open(t, length, int64(next(30)), many)
		last, credited, late := int64(-1), int64(0), int64(0)
		want, got := map[place]int64{}, map[place]int64{}
		take := func(l []api.Window) {
			for _, x := range l {
				if x.Number <= last {
					t.Fatalf("%d closes behind %d", x.Number, last)
				}
				last = x.Number
				for _, c := range x.Credits {
					got[place{c.Name, x.Number}] += c.Increase
				}
			}
		}
		for i := range int64(500) {
			s := draw(next, i)
			s.gain.Increase = min(s.gain.Increase, 1<<50) // no sum of these is marked
			switch s.what {
			case "note":
				w.Note(s.time)
			case "clock":
				take(w.Clock(s.time))
			case "add":
				is, closed := w.Add(s.gain)
				take(closed)
				if is {
					late++
				} else {
					credited++
					want[place{s.gain.Name, s.gain.Time / length}] += s.gain.Increase
				}
			}
			if n := len(w.Open()); n > many || w.Floor() < last {
				t.Fatalf("%d open, of %d; the floor is %d, and %d closed", n, many, w.Floor(), last)
			}
		}
		take(w.Open()) // all are behind the last one that closed
		if !maps.Equal(got, want) {
			t.Fatalf("%v, want %v", got, want)
		}
		if c, l := w.Counts(); c != credited || l != late || c < 50 || l < 10 {
			t.Fatalf("Counts %d, %d, want %d, %d", c, l, credited, late)
		}
	}
}
