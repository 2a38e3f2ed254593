package delta_test

import (
	"math/big"
	"testing"

	"odometer/api"
	"odometer/delta"
	"odometer/store"
)

// values are numbers at which a gain may go wrong.
func values() []int64 {
	l := []int64{0, least, least + 1, most, most - 1}
	for _, n := range []int64{1, 2, 3, 999999, 1000000, 1 << 31, 1 << 32, 1<<53 + 1, 1<<62 - 1, 1 << 62, 1<<62 + 1} {
		l = append(l, n, -n)
	}
	return l
}

// reckoned is the gain of a value behind another one, by the chapter's words, without bounds on the way.
func reckoned(ahead, value int64) (int64, bool) {
	n := new(big.Int).Sub(big.NewInt(value), big.NewInt(ahead))
	is := n.Sign() < 0
	if is {
		n.SetInt64(value)
	}
	switch {
	case n.Sign() < 0:
		return 0, is
	case !n.IsInt64():
		return most, is
	}
	return n.Int64(), is
}

// P17.2: Gain

func TestGain(t *testing.T) {
	for _, x := range []struct {
		ahead, value, want int64
		reset              bool
	}{
		{5, 9, 4, false},
		{9, 2, 2, true},
		{2, 4, 2, false},
		{5, 5, 0, false},
		{0, 0, 0, false},
		{1, 0, 0, true},
		{0, 1, 1, false},
		{-5, 3, 8, false},
		{-5, -3, 2, false},
		{-5, -5, 0, false},
		{-5, 0, 5, false},
		{-3, -5, 0, true},
		{0, -1, 0, true},
		{5, -2, 0, true},
		{-1, -2, 0, true},
		{0, most, most, false},
		{-1, most - 1, most, false},
		{-1, most, most, false},
		{-2, most, most, false},
		{most, most, 0, false},
		{most, most - 1, most - 1, true},
		{most, 0, 0, true},
		{most, -1, 0, true},
		{least, least, 0, false},
		{least, least + 1, 1, false},
		{least + 1, least, 0, true},
		{least, -1, most, false},
		{least, 0, most, false},
		{least, most, most, false},
		{least + 1, 0, most, false},
		{most, least, 0, true},
		{0, least, 0, true},
		{-1, least, 0, true},
		{1, least, 0, true},
	} {
		if n, is := delta.Gain(x.ahead, x.value); n != x.want || is != x.reset {
			t.Errorf("Gain(%d, %d) = %d, %v, want %d, %v", x.ahead, x.value, n, is, x.want, x.reset)
		}
	}
}

// Gain by itself, and what Put tells of the same: all numbers behind all.
func TestGainOfAll(t *testing.T) {
	for _, ahead := range values() {
		for _, value := range values() {
			want, is := reckoned(ahead, value)
			if n, reset := delta.Gain(ahead, value); n != want || reset != is {
				t.Errorf("Gain(%d, %d) = %d, %v, want %d, %v", ahead, value, n, reset, want, is)
			}
			m := of(1, at("a", ahead, 1))
			checkPut(t, m, 1, list(behind(ahead, at("a", value, 2))), api.Gain{Name: "a", Time: 2, Increase: want, Reset: is})
		}
	}
}

// P17.2: Tally

// Tally, step by step, by what is put alone.
func TestTally(t *testing.T) {
	m := delta.New(2)
	a, b, c := at("a", 5, 5), at("b", 5, 5), at("c", 5, 5)
	for i, x := range []struct {
		owner int
		l     []api.Sample
		want  api.Tally
	}{
		{1, nil, api.Tally{}},
		{1, []api.Sample{a}, api.Tally{Parsed: 1, Accepted: 1}},
		{1, []api.Sample{a}, api.Tally{Parsed: 2, Accepted: 1, Twice: 1}},
		{1, []api.Sample{at("a", 9, 4)}, api.Tally{Parsed: 3, Accepted: 1, Order: 1, Twice: 1}},
		{2, []api.Sample{b, c}, api.Tally{Parsed: 5, Accepted: 2, Order: 1, Twice: 1, Full: 1}},
		{2, []api.Sample{at("b", 8, 6)}, api.Tally{Parsed: 6, Accepted: 3, Order: 1, Twice: 1, Full: 1, Gains: 1}},
		{2, []api.Sample{at("b", 8, 7)}, api.Tally{Parsed: 7, Accepted: 4, Order: 1, Twice: 1, Full: 1, Gains: 2}},
		{1, []api.Sample{at("a", 2, 6)}, api.Tally{Parsed: 8, Accepted: 5, Order: 1, Twice: 1, Full: 1, Gains: 3, Resets: 1}},
		{1, []api.Sample{gauge("a", 1, 7), gauge("b", 1, 8)}, api.Tally{Parsed: 10, Accepted: 7, Order: 1, Twice: 1, Full: 1, Gains: 3, Resets: 1}},
		{1, nil, api.Tally{Parsed: 10, Accepted: 7, Order: 1, Twice: 1, Full: 1, Gains: 3, Resets: 1}},
		{1, []api.Sample{at("a", 0, 8), at("b", 0, 9)}, api.Tally{Parsed: 12, Accepted: 9, Order: 1, Twice: 1, Full: 1, Gains: 3, Resets: 1}},
		{1, []api.Sample{at("a", -1, 9), at("b", most, 9)}, api.Tally{Parsed: 14, Accepted: 10, Order: 1, Twice: 2, Full: 1, Gains: 4, Resets: 2}},
		{3, []api.Sample{c, c, c, at("a", 0, least)}, api.Tally{Parsed: 18, Accepted: 10, Order: 2, Twice: 2, Full: 4, Gains: 4, Resets: 2}},
	} {
		m.Put(x.owner, x.l...)
		if got := m.Tally(); got != x.want {
			t.Errorf("behind %d: %+v, want %+v", i, got, x.want)
		}
	}
	tally := m.Tally()
	tally.Parsed, tally.Gains = 0, 99
	if m.Tally() == tally {
		t.Error("what was answered is the meter's")
	}
}

// P17.2: Store

func TestStoreIsThatOfItsPuts(t *testing.T) {
	m, s := delta.New(2), store.New(2)
	for i, l := range [][]api.Sample{nil, {at("a", 5, 1)}, {at("a", 5, 1), gauge("b", 1, 1), at("c", 1, 1)}, {at("b", 7, 2)}, nil, {at("a", -1, 3)}} {
		m.Put(i%2, l...)
		s.Put(i%2, l...)
		if !m.Store().Same(s) {
			t.Errorf("behind %d it is another one", i)
		}
	}
}

func TestStoreIsACopy(t *testing.T) {
	m := of(2, at("a", 5, 1))
	whole := m.Copy()
	s := m.Store()
	if s == m.Store() {
		t.Error("it is one store")
	}
	s.Put(1, at("a", 9, 2), at("b", 9, 2))
	s.Put(1)
	if !m.Same(whole) || m.Store().Len() != 1 {
		t.Error("what was put to the store changed the meter")
	}
	checkPut(t, m, 1, list(behind(5, at("a", 7, 2)), first(at("c", 1, 2))), gain("a", 2, 2))
	if last, is := s.Get("a"); !is || last.Live || last.Sample != at("a", 9, 2) || s.Len() != 2 || s.Live() != 0 {
		t.Error("what was put to the meter changed the store")
	}
}

// P17.3

// goings are what is done to a meter of room for two, where a is owner 1's, and b, stale, 2's; none leaves it as it is.
func goings() map[string]func(m *delta.Meter) {
	return map[string]func(m *delta.Meter){
		"none":       func(m *delta.Meter) { m.Put(1) },
		"a gain":     func(m *delta.Meter) { m.Put(1, at("a", 9, 6)) },
		"no gain":    func(m *delta.Meter) { m.Put(1, gauge("a", 9, 6)) },
		"a reset":    func(m *delta.Meter) { m.Put(1, at("a", 2, 6)) },
		"of another": func(m *delta.Meter) { m.Put(2, at("a", 9, 6)) },
		"twice":      func(m *delta.Meter) { m.Put(1, at("a", 9, 5)) },
		"order":      func(m *delta.Meter) { m.Put(1, at("a", 9, 4)) },
		"full":       func(m *delta.Meter) { m.Put(2, at("c", 9, 9)) },
		"b again":    func(m *delta.Meter) { m.Put(2, at("b", 9, 6)) },
		"all":        func(m *delta.Meter) { m.Put(1, at("b", 9, 6), at("c", 1, 1), at("a", 8, 7), at("b", 5, 9)) },
	}
}

// begun is a meter as goings tell.
func begun() *delta.Meter {
	m := of(2, at("a", 5, 5))
	m.Put(2, at("b", 7, 5))
	m.Put(2)
	return m
}

func TestCopyGoesOnApart(t *testing.T) {
	for name, do := range goings() {
		for again, then := range goings() {
			m, whole := begun(), begun()
			c := m.Copy()
			if c == m || !c.Same(m) {
				t.Fatal("it is the meter itself, or another one")
			}
			do(c)
			checkSame(t, m, begun(), true)
			checkSame(t, m, c, false)
			d := c.Copy()
			do(whole)
			checkSame(t, c, whole, true)
			then(c)
			checkSame(t, d, whole, true)
			then(whole)
			checkSame(t, c, whole, true)
			do(m) // and the other way about
			checkSame(t, m, d, true)
			if t.Failed() {
				t.Fatalf("%s, then %s", name, again)
			}
		}
	}
}

func TestCopyTellsTheSame(t *testing.T) {
	m := begun()
	c := m.Copy()
	for _, o := range []*delta.Meter{m, c, c.Copy()} {
		checkTally(t, o, api.Tally{Parsed: 2, Accepted: 2})
		if o != c {
			continue
		}
		checkPut(t, o, 1, list(behind(5, at("a", 6, 6)), full(at("c", 1, 1)), first(at("b", 1, 6))), gain("a", 1, 6))
	}
	checkPut(t, m, 1, list(behind(5, at("a", 2, 7))), reset("a", 2, 7))
	checkTally(t, c, api.Tally{Parsed: 5, Accepted: 4, Full: 1, Gains: 1})
	checkTally(t, m, api.Tally{Parsed: 3, Accepted: 3, Gains: 1, Resets: 1})
}

// checkSame holds Same to an answer, whichever is asked.
func checkSame(t *testing.T, a, b *delta.Meter, want bool) {
	t.Helper()
	if a.Same(b) != want || b.Same(a) != want {
		t.Errorf("Same: %v, %v, want %v", a.Same(b), b.Same(a), want)
	}
}

// unlike are meters of which no two are the same, each told by what it is.
func unlike() map[string]*delta.Meter {
	all := map[string]*delta.Meter{
		"for none":           delta.New(0),
		"for one":            delta.New(1),
		"for two":            delta.New(2),
		"for two, one twice": of(2, at("a", 1, 1), at("a", 1, 1)),
		"a":                  of(1, at("a", 1, 1)),
		"a, for two":         of(2, at("a", 1, 1)),
		"b":                  of(1, at("b", 1, 1)),
		"a with a value":     of(1, at("a", 2, 1)),
		"a at another time":  of(1, at("a", 1, 2)),
		"a that counts not":  of(1, gauge("a", 1, 1)),
		"a, and twice":       of(1, at("a", 1, 1), at("a", 1, 1)), // of one store from here on
		"a, and order":       of(1, at("a", 1, 1), at("a", 1, 0)),
		"a, and full":        of(1, at("a", 1, 1), at("b", 1, 1)),
		"a, and both":        of(1, at("a", 1, 1), at("a", 1, 1), at("a", 1, 0)),
		"a at last, a gain":  of(1, at("a", 0, 0), at("a", 1, 1)),
		"a, no gain ahead":   of(1, at("a", 0, -1), gauge("a", 0, 0), at("a", 1, 1)),
		"a, two gains":       of(1, at("a", 0, -1), at("a", 0, 0), at("a", 1, 1)),
		"a, a reset":         of(1, at("a", 2, 0), at("a", 1, 1)),
		"a, a reset ahead":   of(1, at("a", 2, -1), at("a", 0, 0), at("a", 1, 1)),
		"a, two resets":      of(1, at("a", 3, -1), at("a", 2, 0), at("a", 1, 1)),
		"begun":              begun(),
	}
	for owner, name := range map[int]string{0: "a of none", 2: "a of 2"} {
		all[name] = delta.New(1)
		all[name].Put(owner, at("a", 1, 1))
	}
	all["a stale"] = of(1, at("a", 1, 1))
	all["a stale"].Put(1)
	for name, do := range goings() {
		all["begun: "+name] = begun()
		do(all["begun: "+name])
	}
	return all
}

func TestSame(t *testing.T) {
	again := unlike()
	for x, m := range unlike() {
		for y, o := range again {
			if is := m.Same(o); is != (x == y) {
				t.Errorf("%s, and %s: same %v", x, y, is)
			}
			if is := m.Copy().Same(o); is != (x == y) {
				t.Errorf("a copy of %s, and %s: same %v", x, y, is)
			}
		}
		checkSame(t, m, m, true)
		checkSame(t, m, nil, false)
	}
	for _, room := range []int{least, -1, 0} {
		checkSame(t, delta.New(room), delta.New(0), true)
		checkSame(t, delta.New(room), &delta.Meter{}, true)
	}
}

// How it came that meters are as they are can't be told of them.
func TestSameWhicheverWayItCame(t *testing.T) {
	m, o := delta.New(2), delta.New(2)
	m.Put(1, at("a", 1, 1), at("b", 9, 1), at("a", 4, 2), at("b", 3, 2), at("b", 3, 2))
	o.Put(2, at("b", 5, 1), at("a", 1, 1))
	o.Put(1, at("b", 3, 2), at("a", 4, 2), at("a", 7, 2))
	checkSame(t, m, o, true)
	m.Put(1, at("b", 2, 3))
	checkSame(t, m, o, false)
	o.Put(1, at("b", 1, 3))
	checkSame(t, m, o, false)
	m.Put(1, at("b", 3, 4))
	o.Put(1, at("b", 3, 4))
	checkSame(t, m, o, true)
}
