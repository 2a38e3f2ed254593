package delta_test

import (
	"math"
	"slices"
	"strconv"
	"strings"
	"testing"
	"unsafe"

	"odometer/api"
	"odometer/delta"
	"odometer/store"
)

const (
	most  = math.MaxInt64
	least = math.MinInt64
)

// at is a sample that counts; gauge is one that does not.
func at(name string, value, time int64) api.Sample {
	return api.Sample{Name: name, Value: value, Time: time, Counts: true}
}
func gauge(name string, value, time int64) api.Sample {
	return api.Sample{Name: name, Value: value, Time: time}
}

// first is what became of a sample that is accepted without a chain, behind of one that is accepted behind a value.
func first(x api.Sample) api.Seen { return api.Seen{Sample: x, Verdict: api.VerdictAccepted} }
func behind(ahead int64, x api.Sample) api.Seen {
	return api.Seen{Sample: x, Verdict: api.VerdictAccepted, Chain: true, Ahead: ahead}
}
func order(x api.Sample) api.Seen { return api.Seen{Sample: x, Verdict: api.VerdictOrder} }
func twice(x api.Sample) api.Seen { return api.Seen{Sample: x, Verdict: api.VerdictTwice} }
func full(x api.Sample) api.Seen  { return api.Seen{Sample: x, Verdict: api.VerdictFull} }

// gain is one of a series at a time, reset one that is a reset.
func gain(name string, increase, time int64) api.Gain {
	return api.Gain{Name: name, Time: time, Increase: increase}
}
func reset(name string, increase, time int64) api.Gain {
	return api.Gain{Name: name, Time: time, Increase: increase, Reset: true}
}

// list is what became of samples.
func list(l ...api.Seen) []api.Seen { return l }

// samples are those of which these things became.
func samples(l []api.Seen) []api.Sample {
	var out []api.Sample
	for _, x := range l {
		out = append(out, x.Sample)
	}
	return out
}

// counted is a tally behind a put of which this was told.
func counted(c api.Tally, seen []api.Seen, gains []api.Gain) api.Tally {
	for _, x := range seen {
		c.Parsed++
		switch x.Verdict {
		case api.VerdictAccepted:
			c.Accepted++
		case api.VerdictOrder:
			c.Order++
		case api.VerdictTwice:
			c.Twice++
		case api.VerdictFull:
			c.Full++
		}
	}
	for _, x := range gains {
		c.Gains++
		if x.Reset {
			c.Resets++
		}
	}
	return c
}

// checkPut puts an owner's samples, and holds what became of them, the gains, and what is counted then to these.
func checkPut(t *testing.T, m *delta.Meter, owner int, want []api.Seen, gains ...api.Gain) {
	t.Helper()
	tally := counted(m.Tally(), want, gains)
	seen, got := m.Put(owner, samples(want)...)
	if !slices.Equal(seen, want) {
		t.Errorf("Put(%d): %v, want %v", owner, seen, want)
	}
	if !slices.Equal(got, gains) {
		t.Errorf("Put(%d): gains %v, want %v", owner, got, gains)
	}
	checkTally(t, m, tally)
}

func checkTally(t *testing.T, m *delta.Meter, want api.Tally) {
	t.Helper()
	if c := m.Tally(); c != want {
		t.Errorf("Tally %+v, want %+v", c, want)
	}
}

// checkLast holds a series of a meter's store to its last sample, and to whether it is live.
func checkLast(t *testing.T, m *delta.Meter, live bool, want api.Sample) {
	t.Helper()
	if last, is := m.Store().Get(want.Name); !is || last.Live != live || last.Sample != want {
		t.Errorf("%q is %v, %v, want %v, live %v", want.Name, last, is, want, live)
	}
}

// of is a meter with room, to which owner 1 has put samples.
func of(room int, l ...api.Sample) *delta.Meter {
	m := delta.New(room)
	m.Put(1, l...)
	return m
}

// P17.1: New

func TestNew(t *testing.T) {
	for _, room := range []int{math.MinInt, -1, 0, 1, 2, 3, api.MaxSeries, math.MaxInt} {
		m := delta.New(room)
		if m == nil {
			t.Fatalf("New(%d) is nil", room)
		}
		checkTally(t, m, api.Tally{})
		if !m.Store().Same(store.New(room)) {
			t.Errorf("New(%d): its store is another one", room)
		}
		has := int64(max(min(room, 5), 0))
		for i := range 5 {
			x := at(string(rune('a'+i)), 7, 5)
			if int64(i) < has {
				checkPut(t, m, i, list(first(x)))
			} else {
				checkPut(t, m, i, list(full(x)))
			}
		}
		checkTally(t, m, api.Tally{Parsed: 5, Accepted: has, Full: 5 - has})
		if m.Store().Len() != int(has) {
			t.Errorf("New(%d): %d series", room, m.Store().Len())
		}
	}
}

func TestZeroIsOfNone(t *testing.T) {
	var m delta.Meter
	checkTally(t, &m, api.Tally{})
	if s := m.Store(); s == nil || !s.Same(store.New(0)) {
		t.Error("its store is another one")
	}
	if !m.Same(delta.New(0)) || !delta.New(0).Same(&m) || !m.Same(m.Copy()) || !m.Same(&delta.Meter{}) || m.Same(nil) {
		t.Error("it is not the same")
	}
	checkPut(t, &m, 1, nil)
	checkPut(t, &m, 1, list(full(at("a", 1, 5)), full(at("a", 2, 6)), full(gauge("", 0, 0))))
	checkPut(t, m.Copy(), 1, list(full(at("a", 1, 5))))
	checkTally(t, &m, api.Tally{Parsed: 3, Full: 3})
	if m.Same(delta.New(0)) || m.Store().Len() != 0 {
		t.Error("what was put is not counted, or is there")
	}
}

func TestNilIsNone(t *testing.T) {
	var m *delta.Meter
	for _, l := range [][]api.Sample{nil, {at("a", 5, 1), at("a", 9, 2)}} {
		if seen, gains := m.Put(1, l...); len(seen) != 0 || len(gains) != 0 {
			t.Errorf("Put: %v, %v", seen, gains)
		}
	}
	checkTally(t, m, api.Tally{})
	if m.Store() != nil || m.Copy() != nil {
		t.Error("a store, or a copy, of nil")
	}
	if !m.Same(nil) || !m.Same(m.Copy()) || m.Same(&delta.Meter{}) || m.Same(delta.New(1)) || delta.New(0).Same(m) {
		t.Error("nil is the same as another one, or not as nil")
	}
}

// P17.1: Put

func TestExamples(t *testing.T) {
	m := delta.New(1)
	checkPut(t, m, 1, list(first(at("a", 5, 1))))
	checkPut(t, m, 1, list(behind(5, at("a", 9, 2))), gain("a", 4, 2))
	checkPut(t, m, 1, list(behind(9, at("a", 2, 3))), reset("a", 2, 3))
	checkPut(t, m, 1, list(behind(2, at("a", 4, 4))), gain("a", 2, 4))
	m = delta.New(1) // with a scrape that failed ahead of the 2
	checkPut(t, m, 1, list(first(at("a", 5, 1))))
	checkPut(t, m, 1, list(behind(5, at("a", 9, 2))), gain("a", 4, 2))
	checkPut(t, m, 1, nil)
	checkPut(t, m, 1, list(first(at("a", 2, 3))))
	checkPut(t, m, 1, list(behind(2, at("a", 4, 4))), gain("a", 2, 4))
}

func TestPutOfNone(t *testing.T) {
	for _, none := range [][]api.Sample{nil, {}} {
		m := of(3, at("a", 5, 1), at("b", 6, 1))
		m.Put(2, at("c", 7, 1))
		was := m.Tally()
		if seen, gains := m.Put(1, none...); len(seen) != 0 || len(gains) != 0 {
			t.Errorf("%v, %v", seen, gains)
		}
		checkTally(t, m, was)
		checkLast(t, m, false, at("a", 5, 1))
		checkLast(t, m, false, at("b", 6, 1))
		checkLast(t, m, true, at("c", 7, 1))
		m.Put(3, none...)
		checkTally(t, m, was)
		checkPut(t, m, 2, list(behind(7, at("c", 9, 2))), gain("c", 2, 2))
		checkPut(t, m, 1, list(first(at("a", 9, 2))))
	}
}

// A first sample has no gain, whatever it is.
func TestFirst(t *testing.T) {
	for _, value := range []int64{0, 1, 5, -1, most, least} {
		for _, time := range []int64{0, 5, -1, api.MaxTime, most, least} {
			m := delta.New(2)
			checkPut(t, m, 1, list(first(at("a", value, time)), first(gauge("b", value, time))))
			checkTally(t, m, api.Tally{Parsed: 2, Accepted: 2})
		}
	}
}

// A gain of nothing is one, too, and its time is the later one's, whatever that is.
func TestAboveAtAndBelow(t *testing.T) {
	for _, x := range []struct {
		ahead, value int64
		want         api.Gain
	}{
		{5, 12, gain("a", 7, 3)},
		{5, 6, gain("a", 1, 3)},
		{5, 5, gain("a", 0, 3)},
		{5, 4, reset("a", 4, 3)},
		{5, 0, reset("a", 0, 3)},
		{0, 0, gain("a", 0, 3)},
		{0, 9, gain("a", 9, 3)},
		{0, most, gain("a", most, 3)},
		{1, most, gain("a", most-1, 3)},
	} {
		m := of(1, at("a", x.ahead, 2))
		checkPut(t, m, 1, list(behind(x.ahead, at("a", x.value, 3))), x.want)
	}
	for _, time := range []int64{least, -7, -1, 0, 1, 1 << 32, api.MaxTime, api.MaxTime + 1, most - 1} {
		m := of(1, at("a", 3, time))
		checkPut(t, m, 1, list(behind(3, at("a", 4, time+1))), gain("a", 1, time+1))
		m = of(1, at("a", 3, time))
		checkPut(t, m, 1, list(behind(3, at("a", 8, most))), gain("a", 5, most))
	}
}

// Whether there is a gain hangs on whether the later one counts; the one ahead is the one ahead, be it a gauge's.
func TestWhatCounts(t *testing.T) {
	m := of(1, gauge("a", 5, 1))
	checkPut(t, m, 1, list(behind(5, gauge("a", 9, 2))))
	checkPut(t, m, 1, list(behind(9, gauge("a", 9, 3))))
	checkPut(t, m, 1, list(behind(9, gauge("a", 2, 4))))
	checkTally(t, m, api.Tally{Parsed: 4, Accepted: 4})
	checkPut(t, m, 1, list(behind(2, at("a", 7, 5))), gain("a", 5, 5))
	checkPut(t, m, 1, list(behind(7, gauge("a", 20, 6))))
	checkPut(t, m, 1, list(behind(20, at("a", 8, 7))), reset("a", 8, 7))
	checkPut(t, m, 1, list(behind(8, gauge("a", 3, 8))))
	checkPut(t, m, 1, list(behind(3, at("a", 3, 9))), gain("a", 0, 9))
	checkPut(t, m, 1, list(behind(3, at("a", 4, 10)), behind(4, gauge("a", 6, 11)), behind(6, at("a", 7, 12))), gain("a", 1, 10), gain("a", 1, 12))
	checkTally(t, m, api.Tally{Parsed: 12, Accepted: 12, Gains: 5, Resets: 1})
}

func TestBehindAStaleOne(t *testing.T) {
	m := of(2, at("a", 5, 1), at("b", 5, 1))
	checkPut(t, m, 1, list(behind(5, at("b", 6, 2))), gain("b", 1, 2)) // without a, which is stale then
	checkPut(t, m, 1, list(first(at("a", 9, 3)), behind(6, at("b", 8, 3))), gain("b", 2, 3))
	checkPut(t, m, 1, list(behind(9, at("a", 10, 4))), gain("a", 1, 4))
	checkPut(t, m, 1, list(twice(at("b", 9, 3)), order(at("b", 9, 2)), first(at("b", 9, 4)), behind(9, at("b", 11, 5))), gain("b", 2, 5))
	checkPut(t, m, 1, nil)
	checkPut(t, m, 1, list(first(at("a", 1, 6)), first(at("b", 1, 6)))) // below the ones ahead, but no resets
	checkTally(t, m, api.Tally{Parsed: 12, Accepted: 10, Order: 1, Twice: 1, Gains: 4})
}

// What is not accepted has no gain, and changes none of the next one's.
func TestNotAccepted(t *testing.T) {
	m := of(1, at("a", 5, 10))
	checkPut(t, m, 1, list(twice(at("a", 9, 10))))
	checkPut(t, m, 1, list(order(at("a", 9, 9))))
	checkPut(t, m, 1, list(order(at("a", 2, least)), twice(at("a", 2, 10)), full(at("b", 7, 11))))
	checkTally(t, m, api.Tally{Parsed: 6, Accepted: 1, Order: 2, Twice: 2, Full: 1})
	checkPut(t, m, 1, list(full(at("", 1, 1)), behind(5, at("a", 6, 11)), full(at("b", 8, 12))), gain("a", 1, 11))
	checkPut(t, m, 1, list(full(at("b", 9, 13)))) // a is stale then
	checkPut(t, m, 1, list(order(at("a", 9, 10)), twice(at("a", 9, 11)), first(at("a", 9, 12))))
	checkTally(t, m, api.Tally{Parsed: 13, Accepted: 3, Order: 3, Twice: 3, Full: 4, Gains: 1})
}

func TestSeveralOfOneSeries(t *testing.T) {
	m := delta.New(2)
	checkPut(t, m, 1, list(
		first(at("a", 5, 1)), behind(5, at("a", 9, 2)), twice(at("a", 50, 2)), first(at("b", 1, 2)),
		behind(9, at("a", 2, 3)), order(at("a", 60, 1)), behind(1, at("b", 0, 3)), behind(2, at("a", 4, 4)),
		full(at("c", 1, 1)), behind(0, gauge("b", 3, 4)), behind(3, at("b", 7, 5)),
	), gain("a", 4, 2), reset("a", 2, 3), reset("b", 0, 3), gain("a", 2, 4), gain("b", 4, 5))
	checkTally(t, m, api.Tally{Parsed: 11, Accepted: 8, Order: 1, Twice: 1, Full: 1, Gains: 5, Resets: 2})
	checkPut(t, m, 1, list(behind(4, at("a", 4, 5)), behind(4, at("a", 3, 6))), gain("a", 0, 5), reset("a", 3, 6))
	checkLast(t, m, true, at("a", 3, 6))
	checkLast(t, m, false, at("b", 7, 5))
}

// The gains stand in the order of their samples, not in that of names.
func TestGainsAreInOrder(t *testing.T) {
	names := []string{"m", "b", "z", "a", "q", ""}
	m := delta.New(len(names))
	var begin, then []api.Seen
	var gains []api.Gain
	for i, name := range names {
		value, time := int64(i), 100-int64(i) // nor of times
		begin = append(begin, first(at(name, value, time)))
		then = append(then, behind(value, at(name, 3*value, time+10)))
		gains = append(gains, gain(name, 2*value, time+10))
	}
	checkPut(t, m, 1, begin)
	checkPut(t, m, 1, then, gains...)
}

// A chain goes on from owner to owner; what its owner does not put is stale.
func TestAnotherOwner(t *testing.T) {
	m := of(2, at("a", 5, 1), at("b", 5, 1))
	checkPut(t, m, 2, list(behind(5, at("a", 8, 2))), gain("a", 3, 2))
	checkPut(t, m, 1, list(twice(at("a", 9, 2)), behind(5, at("b", 6, 2))), gain("b", 1, 2))
	checkPut(t, m, 2, list(behind(8, at("a", 7, 3))), reset("a", 7, 3))
	checkPut(t, m, 1, nil)
	checkPut(t, m, 2, list(behind(7, at("a", 9, 4)), first(at("b", 9, 4))), gain("a", 2, 4))
	checkPut(t, m, 2, nil)
	checkPut(t, m, 1, list(first(at("a", 99, 5)), first(at("b", 99, 5))))
	for _, owner := range []int{math.MinInt, -1, 0, math.MaxInt} {
		m := of(1, at("a", 5, 1))
		m.Put(owner)
		checkPut(t, m, owner, list(behind(5, at("a", 8, 2))), gain("a", 3, 2))
		m.Put(1)
		checkPut(t, m, 1, list(behind(8, at("a", 9, 3))), gain("a", 1, 3))
	}
}

// Any text is a name.
func TestAnyName(t *testing.T) {
	names := []string{"", "\x00", " ", "1", "a", "a ", "a{", "a{b=\"1\"}", "a{b=\"1\"", "a{b=\"2\",b=\"1\"}", "A", "é", "\xff", strings.Repeat("\xff", 5000)}
	m := delta.New(len(names))
	var begin, then []api.Seen
	var gains []api.Gain
	for i, name := range names {
		begin = append(begin, first(at(name, int64(i), 1)))
		then = append(then, behind(int64(i), at(name, int64(3*i), 2)))
		gains = append(gains, gain(name, int64(2*i), 2))
	}
	checkPut(t, m, 1, begin)
	checkPut(t, m, 1, then, gains...)
	for i, name := range names { // without one of them: that one alone is stale
		m := delta.New(len(names))
		m.Put(1, samples(begin)...)
		checkPut(t, m, 1, slices.Delete(slices.Clone(then), i, i+1), slices.Delete(slices.Clone(gains), i, i+1)...)
		checkPut(t, m, 1, list(first(at(name, 7, 2)), full(at("other", 7, 2))))
	}
}

// What is handed in is neither changed nor kept, and what is answered is the caller's.
func TestMemory(t *testing.T) {
	texts := []byte("abc")
	all := unsafe.String(&texts[0], len(texts)) // names that change once their bytes do
	l := []api.Sample{at(all[:1], 5, 1), at(all[1:2], 6, 1), at(all[:1], 9, 2), at(all[2:], 7, 1)}
	was := slices.Clone(l)
	m := delta.New(2)
	seen, gains := m.Put(1, l...)
	if !slices.Equal(l, was) {
		t.Errorf("what was handed in is %v", l)
	}
	c, s := m.Copy(), m.Store()
	copy(texts, "xyz")
	want := list(first(at("a", 5, 1)), first(at("b", 6, 1)), behind(5, at("a", 9, 2)), full(at("c", 7, 1)))
	if !slices.Equal(seen, want) || !slices.Equal(gains, []api.Gain{gain("a", 4, 2)}) {
		t.Errorf("%v, %v, want %v", seen, gains, want)
	}
	for i := range l {
		l[i], seen[i] = at("q", 99, 99), order(at("q", 99, 99))
	}
	gains[0] = reset("q", 99, 99)
	clear(gains[:cap(gains)])
	clear(seen[:cap(seen)])
	if !s.Same(m.Store()) || !m.Same(c) {
		t.Error("it is changed")
	}
	for _, o := range []*delta.Meter{m, c} {
		checkTally(t, o, api.Tally{Parsed: 4, Accepted: 3, Full: 1, Gains: 1})
		checkPut(t, o, 1, list(behind(9, at("a", 10, 3)), behind(6, at("b", 8, 3))), gain("a", 1, 3), gain("b", 2, 3))
	}
}

// No text of one answer is that of another one, or of what stays.
func TestTextsAreNew(t *testing.T) {
	m := delta.New(1)
	name := strings.Clone("name")
	texts := []string{name}
	for time := range int64(3) {
		seen, gains := m.Put(1, at(name, time, time), at(name, 9, time))
		for _, x := range seen {
			texts = append(texts, x.Sample.Name)
		}
		for _, x := range gains {
			texts = append(texts, x.Name)
		}
	}
	for _, s := range []*store.Store{m.Store(), m.Store(), m.Copy().Store()} {
		for is := range s.All() {
			texts = append(texts, is)
		}
	}
	if len(texts) != 12 {
		t.Fatalf("%d texts", len(texts))
	}
	for i, a := range texts {
		for _, b := range texts[:i] {
			if a != b || unsafe.StringData(a) == unsafe.StringData(b) {
				t.Errorf("%q and %q are the same memory, or unlike", a, b)
			}
		}
	}
}

// Many series, of several owners.
func TestMany(t *testing.T) {
	const many = 30000
	m := delta.New(many - 1)
	var l []api.Sample
	for i := range many {
		l = append(l, at("n"+strconv.Itoa(i), int64(i), 5))
	}
	if _, gains := m.Put(1, l...); len(gains) != 0 {
		t.Errorf("%d gains", len(gains))
	}
	for i := range l {
		l[i].Value, l[i].Time, l[i].Counts = 10000, 6, i%3 > 0
	}
	_, gains := m.Put(2, l...)
	if len(gains) != many/3*2-1 { // the last one has no room
		t.Fatalf("%d gains", len(gains))
	}
	for i, x := range gains {
		at := i/2*3 + 1 + i%2
		want := gain(l[at].Name, 10000-int64(at), 6)
		if at > 10000 {
			want = reset(l[at].Name, 10000, 6)
		}
		if x != want {
			t.Fatalf("%v, want %v", x, want)
		}
	}
	checkTally(t, m, api.Tally{Parsed: 2 * many, Accepted: 2*many - 2, Full: 2, Gains: many/3*2 - 1, Resets: 13332})
}
