package store_test

import (
	"math"
	"slices"
	"strconv"
	"strings"
	"testing"
	"unsafe"

	"odometer/api"
	"odometer/store"
)

// at is a sample whose value tells its time.
func at(name string, time int64) api.Sample {
	return api.Sample{Name: name, Value: 10*time + 1, Time: time, Counts: true}
}

// first is what became of a sample that is accepted without a chain.
func first(x api.Sample) api.Seen { return api.Seen{Sample: x, Verdict: api.VerdictAccepted} }

// behind is what became of one that is accepted behind a value.
func behind(ahead int64, x api.Sample) api.Seen {
	return api.Seen{Sample: x, Verdict: api.VerdictAccepted, Chain: true, Ahead: ahead}
}

func order(x api.Sample) api.Seen { return api.Seen{Sample: x, Verdict: api.VerdictOrder} }
func twice(x api.Sample) api.Seen { return api.Seen{Sample: x, Verdict: api.VerdictTwice} }
func full(x api.Sample) api.Seen  { return api.Seen{Sample: x, Verdict: api.VerdictFull} }

// live and stale are series of an owner, by their last accepted sample.
func live(owner int, x api.Sample) api.Last {
	return api.Last{Sample: x, Live: true, Owner: owner}
}
func stale(owner int, x api.Sample) api.Last { return api.Last{Sample: x, Owner: owner} }

// samples are those of which these things became.
func samples(l []api.Seen) []api.Sample {
	var out []api.Sample
	for _, x := range l {
		out = append(out, x.Sample)
	}
	return out
}

// checkPut puts an owner's samples, and holds what became of them to these.
func checkPut(t *testing.T, s *store.Store, owner int, want ...api.Seen) {
	t.Helper()
	if seen := s.Put(owner, samples(want)...); !slices.Equal(seen, want) {
		t.Errorf("Put(%d): %v, want %v", owner, seen, want)
	}
}

// checkSeries holds all that is told of a store to its series, by rising names.
func checkSeries(t *testing.T, s *store.Store, want ...api.Last) {
	t.Helper()
	many := 0
	for _, x := range want {
		if x.Live {
			many++
		}
		if last, is := s.Get(x.Sample.Name); last != x || !is {
			t.Errorf("Get(%.100q) = %v, %v, want %v", x.Sample.Name, last, is, x)
		}
	}
	if s.Len() != len(want) || s.Live() != many {
		t.Errorf("Len %d, Live %d, want %d, %d", s.Len(), s.Live(), len(want), many)
	}
	var all []api.Last
	for name, last := range s.All() {
		if name != last.Sample.Name {
			t.Errorf("All: %q is %v", name, last)
		}
		all = append(all, last)
	}
	if !slices.Equal(all, want) {
		t.Errorf("All: %v, want %v", all, want)
	}
}

// of is a store with room, into which owner 1 has put samples.
func of(most int, l ...api.Sample) *store.Store {
	s := store.New(most)
	s.Put(1, l...)
	return s
}

// P16.1: New

func TestNew(t *testing.T) {
	for _, most := range []int{math.MinInt, -1, 0, 1, 2, 3, 4096, math.MaxInt} {
		s := store.New(most)
		if s == nil {
			t.Fatalf("New(%d) is nil", most)
		}
		checkSeries(t, s)
		for i := range 5 {
			x := at(string(rune('a'+i)), 5)
			if i < most {
				checkPut(t, s, i, first(x))
			} else {
				checkPut(t, s, i, full(x))
			}
		}
		if want := max(min(most, 5), 0); s.Len() != want || s.Live() != want {
			t.Errorf("New(%d): Len %d, Live %d", most, s.Len(), s.Live())
		}
	}
}

func TestZeroIsForNone(t *testing.T) {
	var s store.Store
	checkSeries(t, &s)
	checkPut(t, &s, 1)
	checkPut(t, &s, 1, full(at("a", 5)), full(at("", 0)), full(at("a", 5)))
	checkSeries(t, &s)
	if _, is := s.Get("a"); is {
		t.Error("a is there")
	}
	checkSame(t, &s, store.New(0), true)
	checkSame(t, &s, s.Copy(), true)
	checkPut(t, s.Copy(), 1, full(at("a", 5)))
}

func TestNilIsNone(t *testing.T) {
	var s *store.Store
	if l := s.Put(1, at("a", 5), at("b", 5)); len(l) != 0 {
		t.Errorf("Put: %v", l)
	}
	if l := s.Put(1); len(l) != 0 {
		t.Errorf("Put: %v", l)
	}
	checkSeries(t, s)
	for _, name := range []string{"", "a"} {
		if last, is := s.Get(name); is || last != (api.Last{}) {
			t.Errorf("Get: %v, %v", last, is)
		}
	}
}

// P16.1: Put

func TestExamples(t *testing.T) {
	s := store.New(1)
	checkPut(t, s, 1, first(at("a", 5)))
	checkPut(t, s, 1, twice(at("a", 5)))
	checkPut(t, s, 1, order(at("a", 3)))
	checkPut(t, s, 1, behind(51, at("a", 9)))
	s = store.New(1)
	checkPut(t, s, 1, first(at("a", 5)))
	checkPut(t, s, 1)
	checkPut(t, s, 1, first(at("a", 9)))
	s = store.New(1) // the first one's puts as one
	checkPut(t, s, 1, first(at("a", 5)), twice(at("a", 5)), order(at("a", 3)), behind(51, at("a", 9)))
	checkSeries(t, s, live(1, at("a", 9)))
}

// edges are times, rising, about which samples may come.
func edges() []int64 {
	return []int64{math.MinInt64, math.MinInt64 + 1, -api.MaxTime, -1, 0, 1, 5, 1 << 32, api.MaxTime - 1, api.MaxTime, api.MaxTime + 1, math.MaxInt64 - 1, math.MaxInt64}
}

// A first sample is accepted, at whatever time; which verdict the next one has hangs on the times alone.
func TestTimes(t *testing.T) {
	for i, one := range edges() {
		for j, two := range edges() {
			a, b := api.Sample{Name: "a", Value: 7, Time: one}, api.Sample{Name: "a", Value: -9, Time: two}
			want := twice(b)
			if i > j {
				want = order(b)
			} else if i < j {
				want = behind(7, b)
			}
			s := store.New(1)
			checkPut(t, s, 3, first(a))
			checkSeries(t, s, live(3, a))
			checkPut(t, s, 3, want)
			if i < j {
				a = b
			}
			checkSeries(t, s, live(3, a))
		}
	}
}

// What is ahead is the value of the last accepted one, whatever it is; whether a sample counts is kept, and asks for nothing here.
func TestValues(t *testing.T) {
	s := store.New(1)
	ahead := int64(0)
	for i, value := range []int64{0, 1, -1, math.MaxInt64, math.MinInt64, 0, 0, 5} {
		x := api.Sample{Name: "a", Value: value, Time: int64(i), Counts: i%3 == 0}
		want := behind(ahead, x)
		if i == 0 {
			want = first(x)
		}
		checkPut(t, s, 1, want)
		checkSeries(t, s, live(1, x))
		late := x
		late.Value, late.Counts = 99, !x.Counts
		checkPut(t, s, 1, twice(late))
		late.Time--
		checkPut(t, s, 1, order(late))
		checkSeries(t, s, live(1, x))
		ahead = value
	}
}

func TestPutOfNone(t *testing.T) {
	a, b, c := at("a", 5), at("b", 5), at("c", 5)
	for _, none := range [][]api.Sample{nil, {}} {
		s := of(9, a, b)
		checkPut(t, s, 2, first(c))
		if l := s.Put(1, none...); len(l) != 0 {
			t.Errorf("%v", l)
		}
		checkSeries(t, s, stale(1, a), stale(1, b), live(2, c))
		s.Put(1, none...)
		s.Put(3, none...)
		checkSeries(t, s, stale(1, a), stale(1, b), live(2, c))
		s.Put(2, none...)
		checkSeries(t, s, stale(1, a), stale(1, b), stale(2, c))
	}
}

// Owners are told apart by their whole numbers.
func TestOwners(t *testing.T) {
	owners := []int{math.MinInt, -1, 0, 1, 2, 1 << 32, 1<<32 + 1, math.MaxInt}
	for _, leaves := range owners {
		s := store.New(len(owners))
		var want []api.Last
		for i, owner := range owners {
			x := at(string(rune('a'+i)), 5)
			checkPut(t, s, owner, first(x))
			last := live(owner, x)
			last.Live = owner != leaves
			want = append(want, last)
		}
		checkPut(t, s, leaves)
		checkSeries(t, s, want...)
	}
}

func TestSeveralOfOneSeries(t *testing.T) {
	a := func(time int64) api.Sample { return at("a", time) }
	s := store.New(1)
	checkPut(t, s, 1, first(a(1)), behind(11, a(2)), behind(21, a(5)))
	checkSeries(t, s, live(1, a(5)))
	checkPut(t, s, 1, behind(51, a(9)), order(a(8)), order(a(7)))
	checkSeries(t, s, live(1, a(9)))
	checkPut(t, s, 1, twice(a(9)), twice(a(9)), behind(91, a(10)), twice(a(10)), order(a(9)), behind(101, a(11)))
	checkSeries(t, s, live(1, a(11)))
	s.Put(1)
	checkPut(t, s, 1, order(a(3)), twice(a(11)), first(a(12)), behind(121, a(13)), order(a(12)))
	checkSeries(t, s, live(1, a(13)))
	s = store.New(1)
	checkPut(t, s, 1, first(a(9)), order(a(5)), order(a(1)), order(a(5)))
	checkSeries(t, s, live(1, a(9)))
	s = store.New(1)
	checkPut(t, s, 1, first(a(5)), twice(a(5)), twice(api.Sample{Name: "a", Time: 5}))
	checkSeries(t, s, live(1, a(5)))
}

// A live series whose next sample is not accepted goes on with its chain; it was among the samples.
func TestLiveOneStays(t *testing.T) {
	a, b := at("a", 5), at("b", 5)
	for _, x := range []api.Seen{twice(at("a", 5)), order(at("a", 4))} {
		s := of(2, a, b)
		checkPut(t, s, 1, x)
		checkSeries(t, s, live(1, a), stale(1, b))
		checkPut(t, s, 1, first(at("b", 6)), x)
		checkSeries(t, s, live(1, a), live(1, at("b", 6)))
		checkPut(t, s, 1, behind(51, at("a", 6)))
		checkSeries(t, s, live(1, at("a", 6)), stale(1, at("b", 6)))
	}
}

// A stale one whose next sample is not accepted is stale still.
func TestStaleOneStays(t *testing.T) {
	a := at("a", 5)
	for _, owner := range []int{1, 2} {
		for _, x := range []api.Seen{twice(at("a", 5)), order(at("a", 4))} {
			s := of(1, a)
			s.Put(1)
			checkPut(t, s, owner, x, x)
			checkSeries(t, s, stale(1, a))
			checkPut(t, s, owner, x, first(at("a", 6)), order(at("a", 5)), behind(61, at("a", 7)))
			checkSeries(t, s, live(owner, at("a", 7)))
		}
	}
}

// A series is whose sample was accepted last; the chain goes on from owner to owner.
func TestAnotherOwner(t *testing.T) {
	a, b := at("a", 5), at("b", 5)
	for _, x := range []api.Seen{twice(at("a", 5)), order(at("a", 4))} {
		s := of(2, a, b)
		checkPut(t, s, 2, x) // not accepted: it is still 1's
		checkSeries(t, s, live(1, a), live(1, b))
		s.Put(2)
		checkSeries(t, s, live(1, a), live(1, b))
		s.Put(1)
		checkSeries(t, s, stale(1, a), stale(1, b))
	}
	s := of(2, a, b)
	checkPut(t, s, 2, behind(51, at("a", 6)))
	checkSeries(t, s, live(2, at("a", 6)), live(1, b))
	s.Put(1)
	checkSeries(t, s, live(2, at("a", 6)), stale(1, b))
	checkPut(t, s, 1, twice(at("a", 6)), first(at("b", 6))) // 2 may not have it, but 2 did not put
	checkSeries(t, s, live(2, at("a", 6)), live(1, at("b", 6)))
	s.Put(2)
	checkSeries(t, s, stale(2, at("a", 6)), live(1, at("b", 6)))
	checkPut(t, s, 1, first(at("a", 7)))
	checkSeries(t, s, live(1, at("a", 7)), stale(1, at("b", 6)))
}

func TestNoRoom(t *testing.T) {
	a, b, c := at("a", 5), at("b", 5), at("c", 5)
	s := store.New(2)
	checkPut(t, s, 1, first(a), first(b), full(c), full(c), behind(51, at("a", 6)), full(at("c", 1)))
	checkSeries(t, s, live(1, at("a", 6)), live(1, b))
	checkPut(t, s, 2, full(c), behind(51, at("b", 6)), full(at("d", 9)))
	checkSeries(t, s, live(1, at("a", 6)), live(2, at("b", 6)))
	checkPut(t, s, 1, full(c)) // nor do stale ones give way
	s.Put(2)
	checkPut(t, s, 1, full(c), order(a), first(at("b", 7)))
	checkSeries(t, s, stale(1, at("a", 6)), live(1, at("b", 7)))
	if last, is := s.Get("c"); is || last != (api.Last{}) {
		t.Errorf("Get(c) = %v, %v", last, is)
	}
}

// names are texts, rising, of which some are no names.
func names() []string {
	return []string{"", "\x00", "\n", " ", "1", "A", "_", "a", "a\x00", "a ", "a 1", "aa", "a{", "a{b=\"1\"", "a{b=\"1\"}", "a{b=\"2\",b=\"1\"}", "a{b=\"2\"}", "a}", "b", "é", "\xff", "\xff\xff", "\xff" + strings.Repeat("\xff", 2000)}
}

// Any text is a name, and no two are the same.
func TestAnyName(t *testing.T) {
	l := names()
	if !slices.IsSorted(l) {
		t.Fatal("they do not rise")
	}
	s := store.New(len(l))
	var want []api.Last
	var seen, again []api.Seen
	for i, name := range l {
		x := at(name, int64(i))
		want, seen, again = append(want, live(1, x)), append(seen, first(x)), append(again, twice(x))
	}
	slices.Reverse(seen)
	checkPut(t, s, 1, seen...)
	checkSeries(t, s, want...)
	checkPut(t, s, 1, again...)
	checkPut(t, s, 2, full(at("aaa", 1)))
	checkSeries(t, s, want...)
	for i, name := range l { // without one of them
		checkPut(t, s, 1, slices.Delete(slices.Clone(again), i, i+1)...)
		one := slices.Clone(want)
		one[i].Live = false
		checkSeries(t, s, one...)
		want[i] = live(1, at(name, 100))
		again[i] = twice(at(name, 100))
		checkPut(t, s, 1, append([]api.Seen{first(at(name, 100))}, again...)...)
	}
}

// What is handed in is neither changed nor kept, and what is answered is the caller's.
func TestMemory(t *testing.T) {
	texts := []byte("abc")
	all := unsafe.String(&texts[0], len(texts)) // names that change once their bytes do
	l := []api.Sample{at(all[:1], 5), at(all[1:2], 5), at(all[:1], 6), at(all[2:], 5)}
	was := slices.Clone(l)
	s := store.New(2)
	seen := s.Put(1, l...)
	if !slices.Equal(l, was) {
		t.Errorf("what was handed in is %v", l)
	}
	c := s.Copy()
	list := s.All()
	a, _ := s.Get("a")
	copy(texts, "xyz")
	want := []api.Seen{first(at("a", 5)), first(at("b", 5)), behind(51, at("a", 6)), full(at("c", 5))}
	if !slices.Equal(seen, want) || a != live(1, at("a", 6)) {
		t.Errorf("%v, %v, want %v", seen, a, want)
	}
	for i := range l {
		l[i], seen[i] = at("q", 99), first(at("q", 99))
	}
	_ = append(seen[:0:cap(seen)], make([]api.Seen, cap(seen))...)
	for _, o := range []*store.Store{s, c} {
		checkSeries(t, o, live(1, at("a", 6)), live(1, at("b", 5)))
		checkPut(t, o, 1, behind(61, at("a", 7)))
	}
	told := ""
	for name := range list {
		told += name
	}
	if told != "ab" {
		t.Errorf("All: %q", told)
	}
}

// No text of one answer is that of another one, or of what stays.
func TestTextsAreNew(t *testing.T) {
	s := store.New(1)
	name := strings.Clone("name")
	seen := append(s.Put(1, at(name, 5)), s.Put(1, at(name, 6))...)
	seen = append(seen, s.Put(1, at(name, 6))...)
	texts := []string{name}
	for _, x := range seen {
		texts = append(texts, x.Sample.Name)
	}
	for _, o := range []*store.Store{s, s, s.Copy()} {
		one, _ := o.Get(name)
		texts = append(texts, one.Sample.Name)
		for is := range o.All() {
			texts = append(texts, is)
		}
	}
	for i, a := range texts {
		for _, b := range texts[:i] {
			if a != b || unsafe.StringData(a) == unsafe.StringData(b) {
				t.Errorf("%q and %q are the same memory, or unlike", a, b)
			}
		}
	}
}

// Many series, of one owner and of several.
func TestMany(t *testing.T) {
	const many = 100000
	s := store.New(many - 1)
	var l []api.Sample
	for i := range many {
		l = append(l, at("n"+strconv.Itoa(i*7919%many), int64(i)))
	}
	for i, x := range s.Put(1, l...) {
		if x != first(l[i]) && (i != many-1 || x != full(l[i])) {
			t.Fatalf("%v", x)
		}
	}
	for i := range l {
		l[i].Time++
	}
	for i, x := range s.Put(1, l[:many/2]...) {
		if x != behind(l[i].Value, l[i]) {
			t.Fatalf("%v", x)
		}
	}
	s.Put(2, l[:many/4]...) // none of them is accepted
	if s.Len() != many-1 || s.Live() != many/2 {
		t.Errorf("Len %d, Live %d", s.Len(), s.Live())
	}
	for i, x := range s.Put(3, l[many/2:many-1]...) {
		if x != first(l[many/2+i]) {
			t.Fatalf("%v", x)
		}
	}
	s.Put(1)
	if s.Len() != many-1 || s.Live() != many/2-1 {
		t.Errorf("Len %d, Live %d", s.Len(), s.Live())
	}
}
