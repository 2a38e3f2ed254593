package store_test

import (
	"fmt"
	"math"
	"slices"
	"strings"
	"testing"

	"odometer/api"
	"odometer/store"
)

// plain is a store by the chapter's words: its series in the order in which they came, each with all of its accepted samples.
type plain struct {
	most   int
	series []line
}

type line struct {
	name     string
	accepted []api.Sample
	live     bool
	owner    int
}

func (x line) last() api.Sample { return x.accepted[len(x.accepted)-1] }

func (p *plain) copy() *plain {
	c := &plain{p.most, slices.Clone(p.series)}
	for i := range c.series {
		c.series[i].accepted = slices.Clone(c.series[i].accepted)
	}
	return c
}

// put puts samples one by one, then tells what is stale.
func (p *plain) put(owner int, l []api.Sample) []api.Seen {
	var seen []api.Seen
	for _, x := range l {
		seen = append(seen, p.one(owner, x))
	}
	for i, y := range p.series {
		among := slices.ContainsFunc(l, func(x api.Sample) bool { return x.Name == y.name })
		if y.live && y.owner == owner && !among {
			p.series[i].live = false
		}
	}
	return seen
}

// one puts one sample.
func (p *plain) one(owner int, x api.Sample) api.Seen {
	at := slices.IndexFunc(p.series, func(y line) bool { return y.name == x.Name })
	if at < 0 {
		if len(p.series) >= p.most {
			return full(x)
		}
		p.series = append(p.series, line{x.Name, []api.Sample{x}, true, owner})
		return first(x)
	}
	y := &p.series[at]
	ahead := y.last()
	if x.Time < ahead.Time {
		return order(x)
	}
	if x.Time == ahead.Time {
		return twice(x)
	}
	seen := first(x)
	if y.live {
		seen = behind(ahead.Value, x)
	}
	y.accepted = append(y.accepted, x)
	y.live, y.owner = true, owner
	return seen
}

// lasts are all series, by rising names.
func (p *plain) lasts() []api.Last {
	var l []api.Last
	for _, x := range p.series {
		l = append(l, api.Last{Sample: x.last(), Live: x.live, Owner: x.owner})
	}
	slices.SortFunc(l, func(a, b api.Last) int { return strings.Compare(a.Sample.Name, b.Sample.Name) })
	return l
}

// key is what makes a store another one.
func (p *plain) key() string { return fmt.Sprintf("%d %q", p.most, fmt.Sprint(p.lasts())) }

// step is a Put.
type step struct {
	owner int
	l     []api.Sample
}

// pair is a store, and what it has to be.
type pair struct {
	s *store.Store
	p *plain
}

func (x pair) copy() pair { return pair{x.s.Copy(), x.p.copy()} }

// do holds what a step answers, and all that is told behind it, against the chapter's words.
func (x pair) do(t *testing.T, y step) []api.Seen {
	t.Helper()
	was := slices.Clone(y.l)
	seen, want := x.s.Put(y.owner, y.l...), x.p.put(y.owner, y.l)
	if !slices.Equal(seen, want) || !slices.Equal(y.l, was) {
		t.Fatalf("%v: %v, want %v; behind it %s", y, seen, want, x.p.key())
	}
	checkSeries(t, x.s, x.p.lasts()...)
	for _, name := range []string{"", "none", "b{"} {
		_, is := x.s.Get(name)
		if want := slices.ContainsFunc(x.p.series, func(y line) bool { return y.name == name }); is != want {
			t.Errorf("Get(%q): %v", name, is)
		}
	}
	if t.Failed() {
		t.Fatalf("behind %v: %s", y, x.p.key())
	}
	return seen
}

// steps are some that a store of few series may be put through.
func steps() []step {
	a, b := at("a", 1), at("b", 2)
	later, worth := at("a", 2), api.Sample{Name: "b", Value: 7, Time: 3}
	var all []step
	for owner := range 2 {
		for _, l := range [][]api.Sample{nil, {a}, {later}, {b}, {worth}, {a, later}, {later, a}, {b, a}, {worth, later, b}} {
			all = append(all, step{owner, l})
		}
	}
	return all
}

// Short ways of a store, all of them, and which of the stores that they lead to are the same.
func TestShortWays(t *testing.T) {
	keys := map[string]*store.Store{} // the first one of each
	var walk func(x pair, more int)
	walk = func(x pair, more int) {
		key := x.p.key()
		if o := keys[key]; o == nil {
			keys[key] = x.s.Copy()
		} else if !x.s.Same(o) || !o.Same(x.s) {
			t.Fatalf("two stores of %s are not the same", key)
		}
		if more == 0 {
			return
		}
		for _, s := range steps() {
			y := x.copy()
			y.do(t, s)
			walk(y, more-1)
		}
	}
	for most := range 4 {
		walk(pair{store.New(most), &plain{most: most}}, []int{2, 4, 4, 2}[most])
	}
	walk(pair{&store.Store{}, &plain{}}, 2)
	for key, s := range keys {
		for other, o := range keys {
			if is := s.Same(o); is != (key == other) {
				t.Fatalf("same %v: %s, and %s", is, key, other)
			}
		}
	}
	if len(keys) < 150 {
		t.Errorf("%d stores alone", len(keys))
	}
}

// sequence gives numbers below others, the same in each run.
func sequence() func(below int) int {
	state := uint64(1)
	return func(below int) int {
		state = state*6364136223846793005 + 1442695040888963407
		return int(state >> 33 % uint64(below))
	}
}

// draw are samples of some names, about a time.
func draw(next func(int) int, time int64) []api.Sample {
	words := []string{"a", "b", "c", "", "a{b=\"1\"}", "b{", "\xff", "é", "none of these"}
	var l []api.Sample
	for range next(7) {
		x := api.Sample{Name: words[next(len(words))], Value: int64(next(100)) - 50, Time: time + int64(next(4)) - 2, Counts: next(2) == 0}
		if next(40) == 0 {
			x.Time = math.MinInt64 + int64(next(2))
		}
		l = append(l, x)
	}
	return l
}

// books are a store's, by what its puts answered alone.
type books struct {
	times map[string]int64 // of the last accepted one of each series
	many  map[api.Verdict]int
}

// write holds what one put of so many samples answered to P16.4.
func (b books) write(t *testing.T, seen []api.Seen, samples int) {
	t.Helper()
	if len(seen) != samples {
		t.Fatalf("%d samples: %v", samples, seen)
	}
	for _, x := range seen {
		b.many[x.Verdict]++
		if x.Verdict != api.VerdictAccepted {
			continue
		}
		if time, there := b.times[x.Sample.Name]; there && x.Sample.Time <= time {
			t.Fatalf("%v was accepted behind %d", x, time)
		}
		b.times[x.Sample.Name] = x.Sample.Time
	}
}

// P16.4 (and P0.4): long ways, of copies too: whatever comes, each sample has one verdict, times of accepted ones rise, and series are as many as may be at most.
func TestLongWays(t *testing.T) {
	next := sequence()
	many := map[api.Verdict]int{}
	for way := range 300 {
		most := way % 10
		stores := []pair{{store.New(most), &plain{most: most}}}
		b := books{map[string]int64{}, many} // of the first one
		for i := range 100 {
			which := next(len(stores))
			x := stores[which]
			l := draw(next, int64(i))
			seen := x.do(t, step{next(3) - 1, l})
			if which == 0 {
				b.write(t, seen, len(l))
				if x.s.Len() != len(b.times) {
					t.Fatalf("%d series, of %d one was accepted", x.s.Len(), len(b.times))
				}
			}
			if x.s.Len() > most || x.s.Live() > x.s.Len() {
				t.Fatalf("%d series, %d live, of %d at most", x.s.Len(), x.s.Live(), most)
			}
			if len(stores) < 4 && next(20) == 0 {
				stores = append(stores, x.copy())
			}
			o := stores[next(len(stores))]
			if is, want := x.s.Same(o.s), x.p.key() == o.p.key(); is != want {
				t.Fatalf("same %v: %s, and %s", is, x.p.key(), o.p.key())
			}
		}
	}
	for verdict, times := range many {
		if times < 1000 || verdict < api.VerdictAccepted || verdict > api.VerdictFull || len(many) != 4 {
			t.Errorf("verdict %d came %d times", verdict, times)
		}
	}
}

// P0.2: where a series is among all of its owner's samples, all that its accepted samples differ by, one from the other, adds up to what the last is above the first.
func TestChainHoldsTogether(t *testing.T) {
	next := sequence()
	for range 100 {
		s := store.New(1)
		var begin, last, sum int64
		chains := 0
		for i := range 200 {
			for _, x := range s.Put(next(3), api.Sample{Name: "a", Value: int64(next(1000)), Time: int64(i - next(5))}) {
				switch {
				case x.Verdict != api.VerdictAccepted:
					continue
				case !x.Chain:
					begin = x.Sample.Value
					chains++
				default:
					sum += x.Sample.Value - x.Ahead
				}
				last = x.Sample.Value
			}
		}
		if sum != last-begin || chains != 1 {
			t.Fatalf("%d, want %d, of %d chains", sum, last-begin, chains)
		}
	}
}
