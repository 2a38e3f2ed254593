package window_test

import (
	"testing"

	"odometer/api"
	"odometer/window"
)

// P18.3: Floor, Mark, Open, Counts

// All that is told, step by step, by what is done alone.
func TestStepByStep(t *testing.T) {
	w := open(t, 10, 5, 2)
	a := func(time, increase int64) func() { return func() { w.Add(at("a", time, increase)) } }
	note := func(time int64) func() { return func() { w.Note(time) } }
	clock := func(now int64) func() { return func() { w.Clock(now) } }
	for i, x := range []struct {
		do   func()
		want look
		open []api.Window
	}{
		{clock(50), look{-1, -1, 0, 0}, nil},
		{a(25, 3), look{-1, -1, 1, 0}, []api.Window{of(2, credit("a", 3))}},
		{a(9, 1), look{-1, -1, 2, 0}, []api.Window{of(0, credit("a", 1)), of(2, credit("a", 3))}},
		{a(10, 1), look{0, -1, 3, 0}, []api.Window{of(1, credit("a", 1)), of(2, credit("a", 3))}},
		{a(9, 1), look{0, -1, 3, 1}, []api.Window{of(1, credit("a", 1)), of(2, credit("a", 3))}},
		{a(19, -1), look{0, -1, 3, 2}, []api.Window{of(1, credit("a", 1)), of(2, credit("a", 3))}},
		{a(19, 4), look{0, -1, 4, 2}, []api.Window{of(1, credit("a", 5)), of(2, credit("a", 3))}},
		{note(25), look{0, 25, 4, 2}, []api.Window{of(1, credit("a", 5)), of(2, credit("a", 3))}},
		{clock(24), look{0, 25, 4, 2}, []api.Window{of(1, credit("a", 5)), of(2, credit("a", 3))}},
		{clock(25), look{1, 25, 4, 2}, []api.Window{of(2, credit("a", 3))}},
		{a(19, 4), look{1, 25, 4, 3}, []api.Window{of(2, credit("a", 3))}},
		{a(50, 0), look{1, 25, 5, 3}, []api.Window{of(2, credit("a", 3)), of(5, credit("a", 0))}},
		{note(45), look{1, 45, 5, 3}, []api.Window{of(2, credit("a", 3)), of(5, credit("a", 0))}},
		{clock(99), look{3, 45, 5, 3}, []api.Window{of(5, credit("a", 0))}},
		{clock(30), look{3, 45, 5, 3}, []api.Window{of(5, credit("a", 0))}},
		{note(44), look{3, 45, 5, 3}, []api.Window{of(5, credit("a", 0))}},
		{a(39, 1), look{3, 45, 5, 4}, []api.Window{of(5, credit("a", 0))}},
		{a(api.MaxTime+1, 1), look{3, 45, 5, 5}, []api.Window{of(5, credit("a", 0))}},
		{a(40, 1), look{3, 45, 6, 5}, []api.Window{of(4, credit("a", 1)), of(5, credit("a", 0))}},
		{note(65), look{3, 65, 6, 5}, []api.Window{of(4, credit("a", 1)), of(5, credit("a", 0))}},
		{clock(65), look{5, 65, 6, 5}, nil},
		{a(59, 1), look{5, 65, 6, 6}, nil},
	} {
		x.do()
		checkLook(t, w, x.want, x.open...)
		if t.Failed() {
			t.Fatalf("behind %d", i)
		}
	}
}

// P18.4: Copy

// goings are what is done to windows of length 10, lateness 5, two at most, as begun tells; none leaves them as they are.
func goings() map[string]func(w *window.Windows) {
	return map[string]func(w *window.Windows){
		"a credit":        func(w *window.Windows) { w.Add(at("a", 25, 1)) },
		"of nothing":      func(w *window.Windows) { w.Add(at("a", 35, 0)) },
		"a new series":    func(w *window.Windows) { w.Add(at("c", 25, 1)) },
		"a mark":          func(w *window.Windows) { w.Add(at("b", 35, most)) },
		"a new window":    func(w *window.Windows) { w.Add(at("a", 45, 1)) },
		"late":            func(w *window.Windows) { w.Add(at("a", 15, 1)) },
		"late, no time":   func(w *window.Windows) { w.Add(at("b", -1, 1)); w.Add(at("b", -1, 1)) },
		"a note":          func(w *window.Windows) { w.Note(40) },
		"a reading":       func(w *window.Windows) { w.Clock(15) },
		"one closes":      func(w *window.Windows) { w.Note(36); w.Clock(36) },
		"all close":       func(w *window.Windows) { w.Note(99); w.Clock(46) },
		"a later reading": func(w *window.Windows) { w.Note(99); w.Clock(99) },
	}
}

// begun are windows as goings tell.
func begun(t *testing.T) *window.Windows {
	t.Helper()
	w := open(t, 10, 5, 2, at("a", 25, 3), at("b", 35, 5), at("b", 25, 7))
	w.Add(at("a", -1, 1))
	w.Note(20)
	return w
}

func TestCopyGoesOnApart(t *testing.T) {
	for name, do := range goings() {
		for again, then := range goings() {
			w, whole := begun(t), begun(t)
			c := w.Copy()
			if c == w || !c.Same(w) {
				t.Fatal("it is the windows themselves, or others")
			}
			do(c)
			checkSame(t, w, begun(t), true)
			checkSame(t, w, c, false)
			d := c.Copy()
			do(whole)
			checkSame(t, c, whole, true)
			then(c)
			checkSame(t, d, whole, true)
			then(whole)
			checkSame(t, c, whole, true)
			do(w) // and the other way about
			checkSame(t, w, d, true)
			if t.Failed() {
				t.Fatalf("%s, then %s", name, again)
			}
		}
	}
}

func TestCopyTellsTheSame(t *testing.T) {
	w := begun(t)
	c := w.Copy()
	for _, o := range []*window.Windows{c, w, c.Copy()} {
		checkLook(t, o, look{-1, 20, 3, 1}, of(2, credit("a", 3), credit("b", 7)), of(3, credit("b", 5)))
	}
	checkAdd(t, c, at("a", 40, 1), of(2, credit("a", 3), credit("b", 7)))
	checkAdd(t, w, at("b", 25, 1))
	checkLook(t, c, look{2, 20, 4, 1}, of(3, credit("b", 5)), of(4, credit("a", 1)))
	checkLook(t, w, look{-1, 20, 4, 1}, of(2, credit("a", 3), credit("b", 8)), of(3, credit("b", 5)))
	checkLate(t, c, at("a", 25, 1))
	checkClock(t, w, 99, 0)
}

// P18.4: Same

// checkSame holds Same to an answer, whichever is asked.
func checkSame(t *testing.T, a, b *window.Windows, want bool) {
	t.Helper()
	if a.Same(b) != want || b.Same(a) != want {
		t.Errorf("Same: %v, %v, want %v", a.Same(b), b.Same(a), want)
	}
}

// unlike are windows of which no two are the same, each told by what they are.
func unlike(t *testing.T) map[string]*window.Windows {
	t.Helper()
	a := at("a", 25, 1)
	all := map[string]*window.Windows{
		"nil":              nil,
		"of 10, 5, 2":      open(t, 10, 5, 2),
		"another length":   open(t, 11, 5, 2),
		"another lateness": open(t, 10, 6, 2),
		"another most":     open(t, 10, 5, 3),
		"all others":       open(t, 5, 10, 1),
		"a":                open(t, 10, 5, 2, a),
		"a, length":        open(t, 11, 5, 2, a),
		"a, lateness":      open(t, 10, 6, 2, a),
		"a, most":          open(t, 10, 5, 3, a),
		"b":                open(t, 10, 5, 2, at("b", 25, 1)), // a credit's name
		"a of 2":           open(t, 10, 5, 2, at("a", 25, 2)), // its increase
		"a of 0":           open(t, 10, 5, 2, at("a", 25, 0)),
		"a elsewhere":      open(t, 10, 5, 2, at("a", 35, 1)), // its window
		"a at 0":           open(t, 10, 5, 2, at("a", 5, 1)),
		"a twice, of 1":    open(t, 10, 5, 2, a, at("a", 25, 0)), // a count alone
		"a and b":          open(t, 10, 5, 2, a, at("b", 25, 0)),
		"a and a's":        open(t, 10, 5, 2, a, at("a", 35, 0)),
		"greatest":         open(t, 10, 5, 2, at("a", 25, most), at("a", 25, 0)),
		"marked":           open(t, 10, 5, 2, at("a", 25, most), at("a", 25, 1)), // a mark of a credit alone
		"begun":            begun(t),
	}
	for name, do := range map[string]func(w *window.Windows){
		"late":        func(w *window.Windows) { w.Add(at("a", -1, 1)) },
		"late twice":  func(w *window.Windows) { w.Add(at("a", -1, 1)); w.Add(at("a", 0, -1)) },
		"mark":        func(w *window.Windows) { w.Note(20) },
		"mark of 0":   func(w *window.Windows) { w.Note(0) },
		"mark of 21":  func(w *window.Windows) { w.Note(21) },
		"floor":       func(w *window.Windows) { w.Note(20); w.Clock(15) },
		"floor of 15": func(w *window.Windows) { w.Note(25); w.Clock(15) },
		"floor of 25": func(w *window.Windows) { w.Note(25); w.Clock(25) },
	} {
		all[name], all["a, "+name] = open(t, 10, 5, 2), open(t, 10, 5, 2, a)
		do(all[name])
		do(all["a, "+name])
	}
	closed := open(t, 10, 5, 2, a)
	closed.Note(35)
	all["a, none closed"] = closed.Copy()
	closed.Clock(35)
	all["a closed"] = closed
	all["none, floor of 35"] = open(t, 10, 5, 2)
	all["none, floor of 35"].Note(35)
	all["none, floor of 35"].Clock(35)
	for name, do := range goings() {
		all["begun: "+name] = begun(t)
		do(all["begun: "+name])
	}
	return all
}

func TestSame(t *testing.T) {
	again := unlike(t)
	for x, w := range unlike(t) {
		for y, o := range again {
			if is := w.Same(o); is != (x == y) {
				t.Errorf("%s, and %s: same %v", x, y, is)
			}
			if is := w.Copy().Same(o); is != (x == y) {
				t.Errorf("a copy of %s, and %s: same %v", x, y, is)
			}
		}
		checkSame(t, w, w, true)
		checkSame(t, w, nil, x == "nil")
		checkSame(t, w, &window.Windows{}, x == "nil")
	}
}

// How it came that windows are as they are can't be told of them.
func TestSameWhicheverWayItCame(t *testing.T) {
	w, o := open(t, 10, 5, 2, at("a", 25, 1), at("b", 25, 2), at("b", 35, 3)), open(t, 10, 5, 2, at("b", 39, 3), at("b", 20, 2), at("a", 29, 1))
	checkSame(t, w, o, true)
	w.Add(at("a", 45, 1)) // 2 closes for want of room
	o.Note(35)
	o.Clock(35) // and as the watermark is there
	o.Add(at("a", 45, 1))
	checkSame(t, w, o, false)
	w.Note(20)
	w.Note(35)
	checkSame(t, w, o, true)
	w.Add(at("a", 0, 1))
	checkSame(t, w, o, false)
	o.Add(at("b", -1, -1))
	checkSame(t, w, o, true)
}
