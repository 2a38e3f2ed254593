package delta_test

import (
	"fmt"
	"math/big"
	"slices"
	"testing"

	"odometer/api"
	"odometer/delta"
)

// plain is a meter by the chapters' words: its series in the order in which they came, and all that it ever told.
type plain struct {
	room   int
	series []line
	seen   []api.Seen
	gains  []api.Gain
}

type line struct {
	last  api.Sample
	live  bool
	owner int
}

func (p *plain) copy() *plain {
	return &plain{p.room, slices.Clone(p.series), slices.Clone(p.seen), slices.Clone(p.gains)}
}

// put puts samples one by one, then tells what is stale.
func (p *plain) put(owner int, l []api.Sample) ([]api.Seen, []api.Gain) {
	many, told := len(p.seen), len(p.gains)
	for _, x := range l {
		seen := p.one(owner, x)
		p.seen = append(p.seen, seen)
		if seen.Chain && x.Counts {
			increase, is := reckoned(seen.Ahead, x.Value)
			p.gains = append(p.gains, api.Gain{Name: x.Name, Time: x.Time, Increase: increase, Reset: is})
		}
	}
	for i, y := range p.series {
		among := slices.ContainsFunc(l, func(x api.Sample) bool { return x.Name == y.last.Name })
		p.series[i].live = y.live && (y.owner != owner || among)
	}
	return slices.Clone(p.seen[many:]), slices.Clone(p.gains[told:])
}

// one puts one sample.
func (p *plain) one(owner int, x api.Sample) api.Seen {
	at := slices.IndexFunc(p.series, func(y line) bool { return y.last.Name == x.Name })
	if at < 0 && len(p.series) >= p.room {
		return full(x)
	}
	if at < 0 {
		p.series = append(p.series, line{x, true, owner})
		return first(x)
	}
	y := p.series[at]
	switch {
	case x.Time < y.last.Time:
		return order(x)
	case x.Time == y.last.Time:
		return twice(x)
	}
	p.series[at] = line{x, true, owner}
	if y.live {
		return behind(y.last.Value, x)
	}
	return first(x)
}

// tally is that of all that was told.
func (p *plain) tally() api.Tally { return counted(api.Tally{}, p.seen, p.gains) }

// key is what makes a meter another one.
func (p *plain) key() string {
	var l []string
	for _, x := range p.series {
		l = append(l, fmt.Sprintf("%q %+v", x.last.Name, x))
	}
	slices.Sort(l)
	return fmt.Sprint(p.room, p.tally(), l)
}

// pair is a meter, and what it has to be.
type pair struct {
	m *delta.Meter
	p *plain
}

func (x pair) copy() pair { return pair{x.m.Copy(), x.p.copy()} }

// put holds what a Put answers, and what is told behind it, to the chapters' words.
func (x pair) put(t *testing.T, owner int, l []api.Sample) ([]api.Seen, []api.Gain) {
	t.Helper()
	was := slices.Clone(l)
	seen, gains := x.m.Put(owner, l...)
	wantSeen, wantGains := x.p.put(owner, l)
	if !slices.Equal(seen, wantSeen) || !slices.Equal(gains, wantGains) || !slices.Equal(l, was) {
		t.Fatalf("Put(%d, %v): %v, %v, want %v, %v", owner, l, seen, gains, wantSeen, wantGains)
	}
	checkTally(t, x.m, x.p.tally())
	s := x.m.Store()
	if s.Len() != len(x.p.series) {
		t.Errorf("%d series, want %d", s.Len(), len(x.p.series))
	}
	for _, y := range x.p.series {
		want := api.Last{Sample: y.last, Live: y.live, Owner: y.owner}
		if last, is := s.Get(y.last.Name); !is || last != want {
			t.Errorf("%q is %v, %v, want %v", y.last.Name, last, is, want)
		}
	}
	if t.Failed() {
		t.Fatalf("behind Put(%d, %v): %s", owner, l, x.p.key())
	}
	return seen, gains
}

// lists are some that a meter of few series may be put.
func lists() [][]api.Sample {
	a, later, fell, b := at("a", 5, 1), at("a", 9, 2), at("a", 2, 3), at("b", 5, 2)
	return [][]api.Sample{nil, {a}, {later}, {fell}, {gauge("a", 7, 2)}, {b}, {a, later, fell}, {b, later, a}}
}

// Short ways of a meter, all of them, and which of the meters that they lead to are the same.
func TestShortWays(t *testing.T) {
	keys := map[string]*delta.Meter{} // the first one of each
	var walk func(x pair, more int)
	walk = func(x pair, more int) {
		key := x.p.key()
		if o := keys[key]; o == nil {
			keys[key] = x.m.Copy()
		} else if !x.m.Same(o) || !o.Same(x.m) {
			t.Fatalf("two meters of %s are not the same", key)
		}
		if more == 0 {
			return
		}
		for owner := range 2 {
			for _, l := range lists() {
				y := x.copy()
				y.put(t, owner, l)
				walk(y, more-1)
			}
		}
	}
	for room := range 3 {
		walk(pair{delta.New(room), &plain{room: room}}, []int{2, 3, 3}[room])
	}
	walk(pair{&delta.Meter{}, &plain{}}, 2)
	for key, m := range keys {
		for other, o := range keys {
			if is := m.Same(o); is != (key == other) {
				t.Fatalf("same %v: %s, and %s", is, key, other)
			}
		}
	}
	if len(keys) < 300 {
		t.Errorf("%d meters alone", len(keys))
	}
}

// sequence gives numbers below others, the same in each run.
func sequence() func(below int) int {
	state := uint64(1)
	return func(below int) int {
		state = state*6364136223846793005 + 1442695040888963407
		return int(state >> 33 % uint64(below))
	}
}

// draw are samples of some names, about a time.
func draw(next func(int) int, time int64) []api.Sample {
	words := []string{"a", "b", "c", "", "a{b=\"1\"}", "b{", "\xff", "none of these"}
	all := values()
	var l []api.Sample
	for range next(7) {
		x := api.Sample{Name: words[next(len(words))], Value: int64(next(100)) - 20, Time: time + int64(next(4)) - 2, Counts: next(4) > 0}
		if next(10) == 0 {
			x.Value = all[next(len(all))]
		}
		l = append(l, x)
	}
	return l
}

// P17.4: Parsed is all verdicts together, gains are of accepted ones alone, and resets are gains.
func checkBooks(t *testing.T, c api.Tally) {
	t.Helper()
	if c.Parsed != c.Accepted+c.Order+c.Twice+c.Full || c.Gains > c.Accepted || c.Resets > c.Gains {
		t.Errorf("%+v does not balance", c)
	}
}

// Long ways, of copies too.
func TestLongWays(t *testing.T) {
	next := sequence()
	var all api.Tally
	for way := range 300 {
		room := way % 9
		meters := []pair{{delta.New(room), &plain{room: room}}}
		for i := range 100 {
			x := meters[next(len(meters))]
			seen, gains := x.put(t, next(3)-1, draw(next, int64(i)))
			all = counted(all, seen, gains)
			checkBooks(t, x.m.Tally())
			if len(meters) < 4 && next(20) == 0 {
				meters = append(meters, x.copy())
			}
			o := meters[next(len(meters))]
			if is, want := x.m.Same(o.m), x.p.key() == o.p.key(); is != want {
				t.Fatalf("same %v: %s, and %s", is, x.p.key(), o.p.key())
			}
		}
	}
	if min(all.Order, all.Twice, all.Full, all.Gains-all.Resets, all.Resets) < 1000 {
		t.Errorf("some came seldom: %+v", all)
	}
}

// P17.4 (and P0.2): in each chain of samples that count, and are not below 0, the gains add up to what the last is above the first, and, for each reset, the value that was ahead of it.
func TestChainAddsUp(t *testing.T) {
	next := sequence()
	for way := range 200 {
		m := delta.New(1)
		sum, want, last := new(big.Int), new(big.Int), new(big.Int)
		below := []int{3, 1000, 1 << 30}[way%3]
		chains, resets := 0, 0
		for i := range 200 {
			var l []api.Sample
			for range next(5) { // of none: the chain ends
				l = append(l, at("a", int64(next(below))<<next(33), int64(3*i+next(4))))
			}
			seen, gains := m.Put(1, l...)
			for _, x := range seen {
				value := big.NewInt(x.Sample.Value)
				switch {
				case x.Verdict != api.VerdictAccepted:
					continue
				case !x.Chain: // what the last is above the first begins anew
					want.Add(want, last)
					want.Sub(want, value)
					chains++
				case value.Cmp(last) < 0:
					want.Add(want, last)
					resets++
				}
				last = value
			}
			for _, x := range gains {
				sum.Add(sum, big.NewInt(x.Increase))
			}
		}
		if want.Add(want, last); sum.Cmp(want) != 0 {
			t.Fatalf("the gains add up to %v, want %v", sum, want)
		}
		if chains < 10 || resets < 10 {
			t.Fatalf("%d chains, %d resets", chains, resets)
		}
	}
}
