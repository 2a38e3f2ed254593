package window_test

import (
	"fmt"
	"math"
	"slices"
	"strings"
	"testing"
	"unsafe"

	"odometer/api"
	"odometer/delta"
	"odometer/window"
)

const (
	most  = math.MaxInt64
	least = math.MinInt64
)

// at is a gain of a series at a time.
func at(name string, time, increase int64) api.Gain {
	return api.Gain{Name: name, Time: time, Increase: increase}
}

// credit is one of a series, over one that is more than it says.
func credit(name string, increase int64) api.Credit {
	return api.Credit{Name: name, Increase: increase}
}
func over(name string) api.Credit { return api.Credit{Name: name, Increase: most, Over: true} }

// of is a window with credits.
func of(number int64, l ...api.Credit) api.Window { return api.Window{Number: number, Credits: l} }

// same: are these the same windows?
func same(a, b []api.Window) bool {
	return slices.EqualFunc(a, b, func(a, b api.Window) bool {
		return a.Number == b.Number && slices.Equal(a.Credits, b.Credits)
	})
}

// open are windows to which gains were added.
func open(t *testing.T, length, lateness int64, many int, l ...api.Gain) *window.Windows {
	t.Helper()
	w, err := window.New(length, lateness, many)
	if err != api.OK || w == nil {
		t.Fatalf("New(%d, %d, %d): %v, %v", length, lateness, many, w, err)
	}
	for _, g := range l {
		if late, closed := w.Add(g); late || len(closed) > 0 {
			t.Fatalf("Add(%v): late %v, closed %v", g, late, closed)
		}
	}
	return w
}

// look is what windows tell of themselves, but for the open ones.
type look struct {
	floor, mark, credited, late int64
}

func lookAt(w *window.Windows) look {
	x := look{floor: w.Floor(), mark: w.Mark()}
	x.credited, x.late = w.Counts()
	return x
}

// checkLook holds what windows tell of themselves to this, and the open ones to these.
func checkLook(t *testing.T, w *window.Windows, want look, l ...api.Window) {
	t.Helper()
	if x := lookAt(w); x != want {
		t.Errorf("%+v, want %+v", x, want)
	}
	if x := w.Open(); !same(x, l) {
		t.Errorf("open %v, want %v", x, l)
	}
}

// checkOpen holds the open windows to these.
func checkOpen(t *testing.T, w *window.Windows, l ...api.Window) {
	t.Helper()
	checkLook(t, w, lookAt(w), l...)
}

// checkAdd adds a gain that is credited, ahead of which these windows close.
func checkAdd(t *testing.T, w *window.Windows, g api.Gain, closed ...api.Window) {
	t.Helper()
	want := lookAt(w)
	want.credited++
	for _, x := range closed {
		want.floor = x.Number
	}
	if late, l := w.Add(g); late || !same(l, closed) {
		t.Errorf("Add(%v): late %v, closed %v, want %v", g, late, l, closed)
	}
	if x := lookAt(w); x != want {
		t.Errorf("behind Add(%v): %+v, want %+v", g, x, want)
	}
}

// checkLate adds a gain that is late: it is counted, and nothing else is done.
func checkLate(t *testing.T, w *window.Windows, g api.Gain) {
	t.Helper()
	want, were := lookAt(w), w.Open()
	want.late++
	if late, l := w.Add(g); !late || len(l) != 0 {
		t.Errorf("Add(%v): late %v, closed %v", g, late, l)
	}
	checkLook(t, w, want, were...)
}

// checkClock is a reading at which these windows close, and behind which the floor is this.
func checkClock(t *testing.T, w *window.Windows, now, floor int64, closed ...api.Window) {
	t.Helper()
	want, were := lookAt(w), w.Open()
	want.floor = floor
	if l := w.Clock(now); !same(l, closed) {
		t.Errorf("Clock(%d): %v, want %v", now, l, closed)
	}
	checkLook(t, w, want, slices.DeleteFunc(were, func(x api.Window) bool { return x.Number <= floor })...)
}

// P18.1: New

func TestNew(t *testing.T) {
	for _, x := range []struct {
		length, lateness int64
		many             int
		want             api.Errno
	}{
		{1, 0, 1, api.OK},
		{10, 5, 2, api.OK},
		{api.MaxInterval, 0, 1, api.OK},
		{1, api.MaxInterval, 1, api.OK},
		{1, 0, api.MaxWindows, api.OK},
		{api.MaxInterval, api.MaxInterval, api.MaxWindows, api.OK},
		{0, 0, 1, api.ErrArg},
		{-1, 0, 1, api.ErrArg},
		{least, 0, 1, api.ErrArg},
		{api.MaxInterval + 1, 0, 1, api.ErrArg},
		{most, 0, 1, api.ErrArg},
		{1, -1, 1, api.ErrArg},
		{1, least, 1, api.ErrArg},
		{1, api.MaxInterval + 1, 1, api.ErrArg},
		{1, most, 1, api.ErrArg},
		{1, 0, 0, api.ErrArg},
		{1, 0, -1, api.ErrArg},
		{1, 0, math.MinInt, api.ErrArg},
		{1, 0, api.MaxWindows + 1, api.ErrArg},
		{1, 0, math.MaxInt, api.ErrArg},
		{0, -1, 1, api.ErrArg}, // several wrong at once
		{0, 0, 0, api.ErrArg},
		{1, -1, 0, api.ErrArg},
		{0, -1, 0, api.ErrArg},
		{most, most, math.MaxInt, api.ErrArg},
		{least, most, api.MaxWindows + 1, api.ErrArg},
	} {
		w, err := window.New(x.length, x.lateness, x.many)
		if err != x.want || (w != nil) != (x.want == api.OK) {
			t.Errorf("New(%d, %d, %d): %v, %v, want %v", x.length, x.lateness, x.many, w, err, x.want)
		}
		if w != nil {
			checkLook(t, w, look{floor: -1, mark: -1})
		}
	}
}

// The greatest and the least windows that may be work as all do.
func TestGreatestAndLeast(t *testing.T) {
	w := open(t, api.MaxInterval, api.MaxInterval, api.MaxWindows, at("a", api.MaxInterval-1, 1), at("a", api.MaxInterval, 2), at("a", api.MaxTime, 3))
	last := int64(api.MaxTime / api.MaxInterval)
	checkOpen(t, w, of(0, credit("a", 1)), of(1, credit("a", 2)), of(last, credit("a", 3)))
	w.Note(api.MaxTime)
	checkClock(t, w, 2*api.MaxInterval-1, -1)
	checkClock(t, w, 2*api.MaxInterval, 0, of(0, credit("a", 1)))
	checkClock(t, w, most, last-2, of(1, credit("a", 2)))
	checkLook(t, w, look{last - 2, api.MaxTime, 3, 0}, of(last, credit("a", 3)))

	w = open(t, 1, 0, 1, at("a", 0, 1))
	w.Note(1)
	checkClock(t, w, 0, -1)
	checkClock(t, w, 1, 0, of(0, credit("a", 1)))
	checkAdd(t, w, at("a", api.MaxTime, 5))
	w.Note(api.MaxTime)
	checkClock(t, w, most, api.MaxTime-1)
	checkLook(t, w, look{api.MaxTime - 1, api.MaxTime, 2, 0}, of(api.MaxTime, credit("a", 5)))
	checkLate(t, w, at("a", api.MaxTime-1, 1))
	checkAdd(t, w, at("a", api.MaxTime, 1))
}

// P18.1: Note, Mark

func TestNoteAndMark(t *testing.T) {
	w := open(t, 10, 5, 2, at("a", 7, 1))
	for i, x := range []struct{ time, want int64 }{
		{-1, -1}, {least, -1}, {api.MaxTime + 1, -1}, {most, -1}, // no times
		{0, 0}, {-1, 0},
		{7, 7}, {7, 7}, {6, 7}, {0, 7}, {8, 8}, // above the mark, at it, below it
		{api.MaxTime + 1, 8}, {-8, 8},
		{api.MaxTime - 1, api.MaxTime - 1}, {api.MaxTime, api.MaxTime}, {api.MaxTime + 1, api.MaxTime}, {most, api.MaxTime}, {3, api.MaxTime}, {-1, api.MaxTime},
	} {
		w.Note(x.time)
		checkLook(t, w, look{-1, x.want, 1, 0}, of(0, credit("a", 1))) // a note closes nothing
		if t.Failed() {
			t.Fatalf("behind %d: Note(%d)", i, x.time)
		}
	}
}

// What is added is not noted, nor is a reading.
func TestMarkIsOfNotesAlone(t *testing.T) {
	w := open(t, 10, 5, 2, at("a", 70, 1))
	checkLate(t, w, at("a", -1, 1))
	checkClock(t, w, 99, -1)
	checkLook(t, w, look{-1, -1, 1, 1}, of(7, credit("a", 1)))
}

// P18.2: Add

// The chapter's examples.
func TestExamples(t *testing.T) {
	w := open(t, 10, 5, 2, at("a", 3, 1), at("a", 12, 1))
	w.Note(14)
	checkClock(t, w, 99, -1)
	w.Note(15)
	checkClock(t, w, 14, -1)
	checkClock(t, w, 15, 0, of(0, credit("a", 1)))
	checkOpen(t, w, of(1, credit("a", 1)))
}

func TestTimesOfGains(t *testing.T) {
	w := open(t, 10, 5, api.MaxWindows)
	for _, time := range []int64{-1, -10, -11, least, api.MaxTime + 1, most} {
		checkLate(t, w, at("a", time, 1))
	}
	for _, time := range []int64{0, api.MaxTime} {
		checkAdd(t, w, at("a", time, 1))
	}
	checkLook(t, w, look{-1, -1, 2, 6}, of(0, credit("a", 1)), of(api.MaxTime/10, credit("a", 1)))
	w.Note(api.MaxTime)
	checkClock(t, w, most, api.MaxTime/10-2, of(0, credit("a", 1)))
	checkLate(t, w, at("a", 0, 1))
	checkLate(t, w, at("a", api.MaxTime+1, 1))
}

func TestIncreases(t *testing.T) {
	w := open(t, 10, 5, 4)
	for _, n := range []int64{-1, -7, -most, least} {
		checkLate(t, w, at("a", 5, n))
	}
	checkAdd(t, w, at("a", 5, 0)) // a credit of nothing opens a window, too
	checkOpen(t, w, of(0, credit("a", 0)))
	checkLate(t, w, at("a", 5, -1))
	checkAdd(t, w, at("a", 15, most))
	checkAdd(t, w, at("a", 5, 1))
	checkAdd(t, w, at("a", 5, 0))
	checkAdd(t, w, api.Gain{Name: "a", Time: 5, Increase: 2, Reset: true}) // a reset's is as any
	checkLook(t, w, look{-1, -1, 5, 5}, of(0, credit("a", 3)), of(1, credit("a", most)))
}

// The first and the last time of a window, and the first of the next one.
func TestWindowOfATime(t *testing.T) {
	for _, length := range []int64{1, 2, 7, 10, 1000, api.MaxInterval} {
		w := open(t, length, 0, api.MaxWindows)
		for _, number := range []int64{0, 1, 2, 5, 1000} {
			want := w.Open()
			checkAdd(t, w, at("first", number*length, 1))
			checkOpen(t, w, append(want, of(number, credit("first", 1)))...)
			checkAdd(t, w, at("last", number*length+length-1, 2))
			checkOpen(t, w, append(want, of(number, credit("first", 1), credit("last", 2)))...)
		}
	}
}

// A window at the floor is closed, as is one below it; one above it is not.
func TestAboutTheFloor(t *testing.T) {
	for _, floor := range []int64{0, 1, 2, 50} {
		w := open(t, 10, 0, 5)
		w.Note(floor*10 + 10)
		checkClock(t, w, most, floor)
		for n := range floor {
			checkLate(t, w, at("a", n*10, 1))
			checkLate(t, w, at("a", n*10+9, 1))
		}
		checkLate(t, w, at("a", floor*10, 1))
		checkLate(t, w, at("a", floor*10+9, 1))
		checkOpen(t, w)
		checkAdd(t, w, at("a", floor*10+10, 1))
		checkOpen(t, w, of(floor+1, credit("a", 1)))
	}
}

// As many are open as may be: one of them, one below all of these, between them, above all.
func TestNoRoom(t *testing.T) {
	w := open(t, 10, 5, 3, at("a", 50, 1), at("a", 20, 2), at("b", 80, 3))
	checkOpen(t, w, of(2, credit("a", 2)), of(5, credit("a", 1)), of(8, credit("b", 3)))
	for _, time := range []int64{20, 59, 85} { // one of them
		checkAdd(t, w, at("c", time, 1))
	}
	checkOpen(t, w, of(2, credit("a", 2), credit("c", 1)), of(5, credit("a", 1), credit("c", 1)), of(8, credit("b", 3), credit("c", 1)))
	for _, time := range []int64{0, 9, 10, 19, 19} { // below all: late, though it is above the floor
		checkLate(t, w, at("c", time, 1))
	}
	checkAdd(t, w, at("d", 30, 4), of(2, credit("a", 2), credit("c", 1))) // between
	checkLook(t, w, look{2, -1, 7, 5}, of(3, credit("d", 4)), of(5, credit("a", 1), credit("c", 1)), of(8, credit("b", 3), credit("c", 1)))
	checkLate(t, w, at("a", 29, 1))
	checkAdd(t, w, at("d", 31, 1))
	checkAdd(t, w, at("d", 70, 1), of(3, credit("d", 5)))
	checkAdd(t, w, at("d", 999, 1), of(5, credit("a", 1), credit("c", 1))) // above all
	checkAdd(t, w, at("d", 1000, 2), of(7, credit("d", 1)))
	checkAdd(t, w, at("d", 90, 3), of(8, credit("b", 3), credit("c", 1)))
	checkLook(t, w, look{8, -1, 12, 6}, of(9, credit("d", 3)), of(99, credit("d", 1)), of(100, credit("d", 2)))
	checkClock(t, w, most, 8) // without a note the floor does not rise
}

// What is late though nothing is closed may be credited once there is room.
func TestRoomAgain(t *testing.T) {
	w := open(t, 10, 0, 2, at("a", 50, 1), at("a", 60, 1))
	checkLate(t, w, at("a", 40, 1))
	w.Note(20)
	checkClock(t, w, most, 1)
	checkLate(t, w, at("a", 40, 1))
	checkAdd(t, w, at("a", 70, 1), of(5, credit("a", 1)))
	w.Note(70)
	checkClock(t, w, most, 6, of(6, credit("a", 1)))
	checkAdd(t, w, at("a", 90, 1))
	checkAdd(t, w, at("a", 70, 1))
	checkLate(t, w, at("a", 69, 1))
	checkAdd(t, w, at("a", 80, 1), of(7, credit("a", 2)))
}

// Of one open at most, each later one closes the one that is open.
func TestOneAtMost(t *testing.T) {
	w := open(t, 10, 5, 1, at("a", 0, 1))
	for n := range int64(50) {
		checkAdd(t, w, at("a", n*20+20, 1), of(2*n, credit("a", 1)))
		checkLate(t, w, at("a", n*20+19, 1)) // its window never was open, and is below all
		checkOpen(t, w, of(2*n+2, credit("a", 1)))
	}
}

// As many as may be at all are open, and one more.
func TestMostOfAll(t *testing.T) {
	for many := 1; many <= api.MaxWindows; many++ {
		w := open(t, 10, 5, many)
		var want []api.Window
		for n := range int64(many) {
			checkAdd(t, w, at("a", 10*n, n))
			want = append(want, of(n, credit("a", n)))
		}
		checkOpen(t, w, want...)
		checkAdd(t, w, at("a", 10*int64(many), 5), want[0])
		checkOpen(t, w, append(want[1:], of(int64(many), credit("a", 5)))...)
	}
}

func TestOver(t *testing.T) {
	w := open(t, 10, 0, 2, at("a", 0, most-1), at("b", 0, most))
	checkOpen(t, w, of(0, credit("a", most-1), credit("b", most)))
	checkAdd(t, w, at("a", 0, 1)) // just the greatest
	checkAdd(t, w, at("b", 0, 0))
	checkOpen(t, w, of(0, credit("a", most), credit("b", most)))
	checkAdd(t, w, at("a", 0, 1)) // one above it
	checkOpen(t, w, of(0, over("a"), credit("b", most)))
	for _, n := range []int64{0, 1, 0, most, 7, 0} { // and more behind that
		checkAdd(t, w, at("a", 0, n))
		checkOpen(t, w, of(0, over("a"), credit("b", most)))
	}
	checkAdd(t, w, at("b", 9, most))
	checkAdd(t, w, at("c", 0, 3))
	checkAdd(t, w, at("a", 10, 4)) // the mark is the window's, not the series'
	checkOpen(t, w, of(0, over("a"), over("b"), credit("c", 3)), of(1, credit("a", 4)))
	w.Note(10)
	checkClock(t, w, 10, 0, of(0, over("a"), over("b"), credit("c", 3)))
	checkOpen(t, w, of(1, credit("a", 4)))
}

// A series in several windows, several series in one: each by rising names, in whichever order they come.
func TestSeriesAndWindows(t *testing.T) {
	names := []string{"m", "b{x=\"1\"}", "b", "Z", "z", "b{x=\"0\"}", "_", "\xff", "é", "b:", "", "aa", "\x00", "a"}
	rising := slices.Sorted(slices.Values(names))
	for turn := range names {
		w := open(t, 10, 5, 4)
		want := make([]api.Window, 4)
		for number := range want {
			want[number].Number = int64(number)
			for i, name := range rising {
				want[number].Credits = append(want[number].Credits, credit(name, int64(3*i*number)))
			}
		}
		for i := range names {
			name := names[(i+turn)%len(names)]
			value := int64(slices.Index(rising, name))
			for _, number := range []int64{2, 0, 3, 1} {
				checkAdd(t, w, at(name, number*10+int64(i)%10, value*number))
				checkAdd(t, w, at(name, number*10, 2*value*number))
			}
		}
		checkOpen(t, w, want...)
		w.Note(45)
		checkClock(t, w, 45, 3, want...)
		checkOpen(t, w)
	}
}

// Any text is a name: those that are empty, and those that are no names.
func TestAnyName(t *testing.T) {
	names := []string{"", "\x00", " ", "1", "a", "a ", "a{", "a{b=\"1\"}", "a{b=\"1\"", "a{b=\"2\",b=\"1\"}", "A", "é", "\xff", strings.Repeat("\xff", 5000)}
	for _, name := range names {
		w := open(t, 10, 5, 4, at(name, 5, 1), at(name, 6, 2), at(name, 15, 4))
		checkOpen(t, w, of(0, credit(name, 3)), of(1, credit(name, 4)))
		for _, other := range names {
			if other != name {
				checkAdd(t, w, at(other, 25, 1))
			}
		}
		if l := w.Open(); len(l) != 3 || len(l[2].Credits) != len(names)-1 {
			t.Errorf("%q: %v", name, l)
		}
	}
}

// What a meter tells is what is added.
func TestGainsOfAMeter(t *testing.T) {
	m, w := delta.New(1), open(t, 10000, 0, 8)
	for i, value := range []int64{5, 9, 2, 4} { // the document's first example, and its third
		_, gains := m.Put(1, api.Sample{Name: "a", Value: value, Time: []int64{9400, 9500, 10500, 19999}[i], Counts: true})
		for _, g := range gains {
			checkAdd(t, w, g)
		}
	}
	checkLook(t, w, look{-1, -1, 3, 0}, of(0, credit("a", 4)), of(1, credit("a", 4)))
}

// P18.2, P18.3: memory

// What is handed in is not kept, and what is answered is the caller's.
func TestMemory(t *testing.T) {
	texts := []byte("ab")
	all := unsafe.String(&texts[0], len(texts)) // names that change once their bytes do
	w := open(t, 10, 0, 2, at(all[:1], 5, 1), at(all[1:], 5, 2), at(all[1:], 15, 3), at(all[:1], 6, 4))
	c := w.Copy()
	zero, one := of(0, credit("a", 5), credit("b", 2)), of(1, credit("b", 3))
	opened := w.Open()
	_, first := w.Copy().Add(at(all, 25, 1))
	noted := w.Copy()
	noted.Note(20)
	second := noted.Clock(20)
	copy(texts, "xyz")
	if !same(opened, []api.Window{zero, one}) || !same(first, []api.Window{zero}) || !same(second, []api.Window{zero, one}) {
		t.Errorf("%v, %v, %v", opened, first, second)
	}
	for _, l := range [][]api.Window{opened, first, second} {
		for i := range l {
			for j := range l[i].Credits {
				l[i].Credits[j] = over("q")
			}
			l[i].Number = 99
		}
		clear(l[:cap(l)])
	}
	for _, o := range []*window.Windows{w, c} {
		checkLook(t, o, look{-1, -1, 4, 0}, zero, one)
		checkAdd(t, o, at("b", 15, 1))
		o.Note(20)
		checkClock(t, o, 20, 1, zero, of(1, credit("b", 4)))
	}
}

// No text of one answer is that of another one, or of what stays; nor is it one that was handed in.
func TestTextsAreNew(t *testing.T) {
	name := strings.Clone("name")
	w := open(t, 10, 0, 3, at(name, 5, 1), at(name, 15, 1), at(name, 5, 1), at(name, 25, 1))
	var answers [][]api.Window
	for range 2 {
		answers = append(answers, w.Open(), w.Copy().Open())
	}
	_, closed := w.Copy().Add(at(name, 35, 1))
	c := w.Copy()
	w.Note(35)
	answers = append(answers, closed, w.Clock(35), c.Open())
	texts := []string{name}
	for _, l := range answers {
		for _, x := range l {
			texts = append(texts, x.Credits[0].Name)
		}
	}
	if len(texts) != 1+4*3+1+3+3 {
		t.Fatalf("%d texts", len(texts))
	}
	for i, a := range texts {
		for _, b := range texts[:i] {
			if a != b || unsafe.StringData(a) == unsafe.StringData(b) {
				t.Errorf("%q and %q are the same memory, or unlike", a, b)
			}
		}
	}
}

// P18.3: Clock, Floor

func TestReadings(t *testing.T) {
	zero, one, two := of(0, credit("a", 1)), of(1, credit("a", 2)), of(2, credit("a", 3))
	for _, x := range []struct {
		mark, now, floor int64
		closed           []api.Window
	}{
		{-1, least, -1, nil}, // without a note
		{-1, -1, -1, nil},
		{-1, 0, -1, nil},
		{-1, 99, -1, nil},
		{-1, most, -1, nil},
		{99, least, -1, nil},
		{99, least + 1, -1, nil},
		{99, -most, -1, nil},
		{99, -100, -1, nil},
		{99, -1, -1, nil},
		{99, 0, -1, nil},
		{99, 4, -1, nil},
		{99, 5, -1, nil},
		{99, 10, -1, nil},
		{99, 14, -1, nil}, // just below the first one's end and the lateness, at it, above it
		{99, 15, 0, []api.Window{zero}},
		{99, 16, 0, []api.Window{zero}},
		{99, 24, 0, []api.Window{zero}},
		{99, 25, 1, []api.Window{zero, one}},
		{99, 34, 1, []api.Window{zero, one}},
		{99, 35, 2, []api.Window{zero, one, two}},
		{99, 44, 2, []api.Window{zero, one, two}},
		{99, 45, 3, []api.Window{zero, one, two}}, // one that is not open
		{99, 94, 7, []api.Window{zero, one, two}},
		{99, 95, 8, []api.Window{zero, one, two}},
		{99, 98, 8, []api.Window{zero, one, two}}, // below the mark, at it, above it
		{99, 99, 8, []api.Window{zero, one, two}},
		{99, 100, 8, []api.Window{zero, one, two}},
		{99, 105, 8, []api.Window{zero, one, two}},
		{99, most, 8, []api.Window{zero, one, two}},
		{0, most, -1, nil},
		{14, most, -1, nil},
		{15, 14, -1, nil},
		{15, 15, 0, []api.Window{zero}},
		{15, most, 0, []api.Window{zero}},
		{24, api.MaxTime, 0, []api.Window{zero}},
		{25, api.MaxTime, 1, []api.Window{zero, one}},
		{api.MaxTime, 25, 1, []api.Window{zero, one}},
		{api.MaxTime, api.MaxTime, (api.MaxTime-5)/10 - 1, []api.Window{zero, one, two}},
		{api.MaxTime, api.MaxTime + 99, (api.MaxTime-5)/10 - 1, []api.Window{zero, one, two}},
	} {
		w := open(t, 10, 5, 3, at("a", 29, 3), at("a", 0, 1), at("a", 10, 2))
		w.Note(x.mark)
		checkClock(t, w, x.now, x.floor, x.closed...)
		checkClock(t, w, x.now, x.floor) // the same once more
		checkClock(t, w, -1, x.floor)
		for _, less := range []int64{least, 0, 14, x.floor} { // a reading that is less: the floor stays
			if less < min(x.now, x.mark) {
				checkClock(t, w, less, x.floor)
			}
		}
		if t.Failed() {
			t.Fatalf("behind Note(%d), Clock(%d)", x.mark, x.now)
		}
	}
}

// Just below, at and just above each end and lateness, of windows of many kinds.
func TestEnds(t *testing.T) {
	for _, length := range []int64{1, 2, 3, 10, api.MaxInterval} {
		for _, lateness := range []int64{0, 1, 2, 9, 10, 11, 30, api.MaxInterval} {
			for _, number := range []int64{0, 1, 2, 7, 1000} {
				end := (number+1)*length + lateness
				w := open(t, length, lateness, 1, at("a", number*length, 1))
				w.Note(api.MaxTime)
				checkClock(t, w, end-1, max(number-1, -1))
				o := w.Copy()
				checkClock(t, w, end, number, of(number, credit("a", 1)))
				checkClock(t, o, end+1, number+(1/length), of(number, credit("a", 1)))
				w = open(t, length, lateness, 1, at("a", number*length+length-1, 1))
				w.Note(end - 1)
				checkClock(t, w, most, max(number-1, -1))
				w.Note(end)
				checkClock(t, w, most, number, of(number, credit("a", 1)))
			}
		}
	}
}

// A lateness beyond the watermark lets nothing close, be the length 1.
func TestLateness(t *testing.T) {
	for _, lateness := range []int64{1, 100, api.MaxInterval} {
		w := open(t, 1, lateness, 4, at("a", 0, 1))
		w.Note(api.MaxTime)
		for _, now := range []int64{least, least + lateness - 1, least + lateness, least + lateness + 5, -lateness, -2, -1, 0, lateness - 1, lateness} {
			checkClock(t, w, now, -1)
		}
		checkClock(t, w, lateness+1, 0, of(0, credit("a", 1)))
		for _, now := range []int64{least, -1, 0, lateness} {
			checkClock(t, w, now, 0)
		}
	}
}

// None is open, and the floor rises all the same.
func TestFloorOfNone(t *testing.T) {
	w := open(t, 10, 5, 3)
	w.Note(57)
	checkClock(t, w, 14, -1)
	checkClock(t, w, 15, 0)
	checkClock(t, w, 44, 2)
	checkClock(t, w, 15, 2)
	checkClock(t, w, 99, 4)
	checkLate(t, w, at("a", 49, 1))
	checkAdd(t, w, at("a", 50, 1))
	checkAdd(t, w, at("a", 70, 1))
	w.Note(75) // 5 closes, and 6, which never was open
	checkClock(t, w, 99, 6, of(5, credit("a", 1)))
	checkLate(t, w, at("a", 69, 1))
	checkLook(t, w, look{6, 75, 2, 2}, of(7, credit("a", 1)))
}

// A floor that rose for want of room is above what a reading comes to: it stays.
func TestFloorStays(t *testing.T) {
	w := open(t, 10, 5, 1, at("a", 90, 1))
	checkAdd(t, w, at("a", 120, 1), of(9, credit("a", 1)))
	w.Note(60)
	checkClock(t, w, 60, 9)
	checkLate(t, w, at("a", 99, 1))
	w.Note(115)
	checkClock(t, w, 115, 10)
	w.Note(134)
	checkClock(t, w, 134, 11)
	w.Note(135)
	checkClock(t, w, 135, 12, of(12, credit("a", 1)))
	checkLook(t, w, look{12, 135, 2, 1})
}

// Many that close at once, opened in another order, tell themselves by rising numbers.
func TestManyClose(t *testing.T) {
	for last := range int64(api.MaxWindows) {
		w := open(t, 10, 5, api.MaxWindows)
		var want []api.Window
		for i := range int64(api.MaxWindows) {
			number := i * 23 % api.MaxWindows
			checkAdd(t, w, at("a", number*10, number))
			want = append(want, of(i, credit("a", i)))
		}
		checkOpen(t, w, want...)
		w.Note(api.MaxTime)
		checkClock(t, w, last*10+15, last, want[:last+1]...)
		checkOpen(t, w, want[last+1:]...)
	}
}

// Many series in a window.
func TestMany(t *testing.T) {
	const many = 20000
	w := open(t, 10, 0, 2)
	var want []api.Credit
	for i := range many {
		name := fmt.Sprintf("n%05d", i*7919%many)
		w.Add(at(name, 5, int64(i)))
		w.Add(at(name, 15, 1))
		want = append(want, credit(fmt.Sprintf("n%05d", i), 0))
	}
	for i := range int64(many) {
		want[i*7919%many].Increase = i
	}
	if x := lookAt(w); x != (look{-1, -1, 2 * many, 0}) {
		t.Errorf("%+v", x)
	}
	w.Note(15)
	checkClock(t, w, 15, 0, of(0, want...))
	if l := w.Open(); len(l) != 1 || len(l[0].Credits) != many {
		t.Errorf("%d", len(l))
	}
}

// P18.1 to P18.4: of nil, and of zero ones, which are as nil

func TestNilAndZeroAreNone(t *testing.T) {
	for _, w := range []*window.Windows{nil, {}, new(window.Windows)} {
		for range 2 {
			for _, g := range []api.Gain{{}, at("a", 5, 1), at("a", -1, 1), at("a", 5, -1), at("a", most, most)} {
				if late, closed := w.Add(g); !late || len(closed) != 0 {
					t.Errorf("Add(%v): late %v, closed %v", g, late, closed)
				}
			}
			for _, time := range []int64{least, -1, 0, 7, api.MaxTime, most} {
				w.Note(time)
				if l := w.Clock(time); len(l) != 0 {
					t.Errorf("Clock(%d): %v", time, l)
				}
			}
			checkLook(t, w, look{floor: -1, mark: -1})
		}
		if w.Copy() != nil {
			t.Error("a copy of none")
		}
		for _, o := range []*window.Windows{nil, {}} {
			checkSame(t, w, o, true)
		}
		checkSame(t, w, w.Copy(), true)
		checkSame(t, w, open(t, 1, 0, 1), false)
		checkSame(t, w, open(t, 10, 5, 2, at("", 0, 0)), false)
	}
}
