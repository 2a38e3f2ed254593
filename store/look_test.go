package store_test

import (
	"math"
	"strconv"
	"testing"

	"odometer/api"
	"odometer/store"
)

// checkSame holds Same to an answer, whichever is asked.
func checkSame(t *testing.T, a, b *store.Store, want bool) {
	t.Helper()
	if a.Same(b) != want || b.Same(a) != want {
		t.Errorf("Same: %v, %v, want %v", a.Same(b), b.Same(a), want)
	}
}

// P16.2

func TestGet(t *testing.T) {
	a, b, noName := at("a", 5), at("b", 6), api.Sample{Name: "", Value: -3, Time: math.MinInt64}
	s := of(9, a, b, noName)
	s.Put(1, noName, a)
	for name, want := range map[string]api.Last{"": live(1, noName), "a": live(1, a), "b": stale(1, b)} {
		if last, is := s.Get(name); last != want || !is {
			t.Errorf("Get(%q) = %v, %v, want %v", name, last, is, want)
		}
	}
	for _, name := range []string{"c", "A", "aa", "ab", " a", "a ", "a{}", "\x00", "a\x00"} {
		if last, is := s.Get(name); last != (api.Last{}) || is {
			t.Errorf("Get(%q) = %v, %v", name, last, is)
		}
	}
	checkSeries(t, s, live(1, noName), live(1, a), stale(1, b)) // Get puts nothing
}

// Len and Live, step by step.
func TestLenAndLive(t *testing.T) {
	s := store.New(3)
	for i, x := range []struct {
		owner     int
		names     string
		many, has int // how many there are then, and are live
	}{
		{1, "", 0, 0}, {1, "ab", 2, 2}, {2, "c", 3, 3}, {2, "d", 3, 2}, {1, "b", 3, 1}, {1, "a", 3, 1},
		{2, "a", 3, 1}, {1, "", 3, 1}, {2, "abc", 3, 3}, {1, "", 3, 3}, {1, "bd", 3, 3}, {2, "", 3, 1}, {1, "d", 3, 0},
	} {
		var l []api.Sample
		for _, c := range x.names {
			l = append(l, at(string(c), int64(i)))
		}
		s.Put(x.owner, l...)
		if s.Len() != x.many || s.Live() != x.has {
			t.Errorf("behind %d: Len %d, Live %d, want %d, %d", i, s.Len(), s.Live(), x.many, x.has)
		}
	}
}

func TestAllRises(t *testing.T) {
	var want []api.Last
	var l []api.Sample
	for i := range 1000 { // texts of as many digits rise as their numbers
		x := at("n"+strconv.Itoa(1000+i), int64(i))
		want, l = append(want, live(1, x)), append(l, x)
	}
	s := store.New(1000)
	for i := range l {
		s.Put(i, l[i*391%1000])
		want[i*391%1000].Owner = i
	}
	for range 5 {
		checkSeries(t, s, want...)
	}
}

// over is what is gone over, so many at most.
func over(all func(func(string, api.Last) bool), most int) []api.Last {
	var l []api.Last
	all(func(name string, last api.Last) bool {
		l = append(l, last)
		return len(l) < most
	})
	return l
}

func TestAllMayBeLeftAndGoneThroughAgain(t *testing.T) {
	s := of(3, at("b", 1), at("c", 2), at("a", 3))
	names := []string{"a", "b", "c"}
	all := s.All()
	for most := range 4 {
		l := over(all, most)
		if len(l) != min(max(most, 1), 3) {
			t.Errorf("left behind %d: %v", most, l)
		}
		for i, x := range l {
			if x.Sample.Name != names[i] {
				t.Errorf("left behind %d: %v", most, l)
			}
		}
		left := 0
		for range all {
			if left++; left == most {
				break
			}
		}
		if want := []int{3, 1, 2, 3}[most]; left != want {
			t.Errorf("%d, want %d", left, want)
		}
	}
	for _, within := range []func(func(string, api.Last) bool){all, s.All()} {
		pairs := ""
		for one := range all {
			for two := range within {
				pairs += one + two + ";"
			}
		}
		if pairs != "aa;ab;ac;ba;bb;bc;ca;cb;cc;" {
			t.Errorf("one within the other: %s", pairs)
		}
	}
}

func TestAllIsAsItWasWhenItWasCalled(t *testing.T) {
	a, c := at("a", 5), at("c", 5)
	s := of(9, a, c)
	s.Put(2, at("c", 6))
	all := s.All()
	s.Put(1, at("b", 7))
	for range 2 {
		l := over(all, 9)
		if len(l) != 2 || l[0] != live(1, a) || l[1] != live(2, at("c", 6)) {
			t.Errorf("%v", l)
		}
	}
	time, told := int64(10), ""
	for name, last := range s.All() { // each that is gone over puts more
		told += name + strconv.FormatBool(last.Live)
		s.Put(3, at("d"+name, time), at("a", time), at("c", time))
		s.Put(3)
		time++
	}
	if told != "afalsebtruectrue" {
		t.Errorf("put on the way: %s", told)
	}
	checkSeries(t, s, stale(3, at("a", 12)), live(1, at("b", 7)), stale(3, at("c", 12)), stale(3, at("da", 10)), stale(3, at("db", 11)), stale(3, at("dc", 12)))
}

// Two at one time, each as the store was when it was called.
func TestTwoAtOneTime(t *testing.T) {
	s := of(9, at("a", 1))
	one := s.All()
	s.Put(1, at("b", 2))
	two := s.All()
	s.Put(1, at("a", 3), at("c", 3))
	told := ""
	for x, last := range one {
		told += x + strconv.FormatBool(last.Live) + ":"
		for y, last := range two {
			told += y + strconv.FormatBool(last.Live) + ";"
		}
	}
	if told != "atrue:afalse;btrue;" {
		t.Error(told)
	}
}

func TestAllOfNothing(t *testing.T) {
	var none *store.Store
	for _, s := range []*store.Store{none, {}, store.New(0), store.New(5)} {
		all := s.All()
		s.Put(1, at("a", 1))
		for name := range all {
			t.Errorf("%q", name)
		}
	}
}

// P16.3

// goings are what is done to a store of room for three, where a and b are owner 1's, and c, stale, 2's; no two come to the same, and none leaves it as it is.
func goings() map[string]func(s *store.Store) {
	return map[string]func(s *store.Store){
		"none":       func(s *store.Store) { s.Put(1) },
		"a alone":    func(s *store.Store) { s.Put(1, at("a", 5)) },
		"a later":    func(s *store.Store) { s.Put(1, at("a", 6), at("b", 5)) },
		"of another": func(s *store.Store) { s.Put(2, at("b", 6)) },
		"c again":    func(s *store.Store) { s.Put(2, at("c", 6)) },
		"c of 1":     func(s *store.Store) { s.Put(1, at("a", 1), at("b", 1), at("c", 6)) },
		"all, later": func(s *store.Store) { s.Put(1, at("a", 9), at("b", 9), at("c", 9)) },
	}
}

// begun is a store as goings tell.
func begun() *store.Store {
	s := of(3, at("a", 5), at("b", 5))
	s.Put(2, at("c", 5))
	s.Put(2)
	return s
}

func TestCopyGoesOnApart(t *testing.T) {
	for name, do := range goings() {
		for again := range goings() {
			s, whole := begun(), begun()
			c := s.Copy()
			if c == s {
				t.Fatal("it is the store itself")
			}
			checkSame(t, s, c, true)
			do(c)
			checkSame(t, s, begun(), true)
			if s.Same(c) {
				t.Errorf("%s does nothing", name)
			}
			d := c.Copy()
			do(whole)
			checkSame(t, c, whole, true)
			goings()[again](c)
			checkSame(t, d, whole, true)
			goings()[again](whole)
			checkSame(t, c, whole, true)
			do(s) // and the other way about
			checkSame(t, s, d, true)
			checkSeries(t, begun().Copy(), live(1, at("a", 5)), live(1, at("b", 5)), stale(2, at("c", 5)))
		}
	}
}

func TestCopyHasItsRoom(t *testing.T) {
	for most := range 4 {
		s := store.New(most)
		for i := range most {
			checkPut(t, s.Copy(), 1, first(at("new", 1)))
			s.Put(1, at(strconv.Itoa(i), 1))
		}
		checkPut(t, s.Copy(), 1, full(at("new", 1)))
		checkPut(t, s.Copy().Copy(), 1, full(at("new", 1)))
	}
	var none *store.Store
	if none.Copy() != nil {
		t.Error("a copy of nil")
	}
}

// unlike are stores of which no two are the same, each told by what it is.
func unlike() map[string]*store.Store {
	all := map[string]*store.Store{
		"for none":            store.New(0),
		"for one":             store.New(1),
		"for two":             store.New(2),
		"for as many as goes": store.New(math.MaxInt),
		"a, for one":          of(1, at("a", 5)),
		"a":                   of(2, at("a", 5)),
		"a, for three":        of(3, at("a", 5)),
		"b":                   of(2, at("b", 5)),
		"no name":             of(2, at("", 5)),
		"a, b":                of(2, at("a", 5), at("b", 5)),
		"a, c":                of(2, at("a", 5), at("c", 5)),
		"a later":             of(2, at("a", 6)),
		"a with a value":      of(2, api.Sample{Name: "a", Value: 52, Time: 5, Counts: true}),
		"a at another time":   of(2, api.Sample{Name: "a", Value: 51, Time: 6, Counts: true}),
		"a that counts not":   of(2, api.Sample{Name: "a", Value: 51, Time: 5}),
		"b behind, of a":      of(2, at("a", 5), at("b", 6)),
		"a behind, of b":      of(2, at("a", 6), at("b", 5)),
		"begun":               begun(),
	}
	for owner, name := range map[int]string{0: "a of none", 2: "a of 2", -1: "a of -1"} {
		all[name] = store.New(2)
		all[name].Put(owner, at("a", 5))
	}
	all["a stale"] = of(2, at("a", 5))
	all["a stale"].Put(1)
	all["a, b stale"] = of(2, at("a", 5), at("b", 5))
	all["a, b stale"].Put(1)
	all["b stale"] = of(2, at("a", 5), at("b", 5))
	all["b stale"].Put(1, at("a", 5))
	all["a stale, of b"] = of(2, at("a", 5), at("b", 5))
	all["a stale, of b"].Put(1, at("b", 5))
	for name, do := range goings() {
		all["begun: "+name] = begun()
		do(all["begun: "+name])
	}
	return all
}

func TestSame(t *testing.T) {
	again := unlike()
	for x, s := range unlike() {
		for y, o := range again {
			if is := s.Same(o); is != (x == y) {
				t.Errorf("%s, and %s: same %v", x, y, is)
			}
			if is := s.Copy().Same(o); is != (x == y) {
				t.Errorf("a copy of %s, and %s: same %v", x, y, is)
			}
		}
		checkSame(t, s, s, true)
		checkSame(t, s, nil, false)
	}
	var none *store.Store
	checkSame(t, none, nil, true)
	checkSame(t, none, &store.Store{}, false)
	checkSame(t, none, store.New(0), false)
	for _, most := range []int{math.MinInt, -1, 0} {
		checkSame(t, store.New(most), store.New(0), true)
		checkSame(t, store.New(most), &store.Store{}, true)
	}
}

// How it came that stores are as they are can't be told of them.
func TestSameWhicheverWayItCame(t *testing.T) {
	s := begun()
	ways := []*store.Store{store.New(3), store.New(3), store.New(3)}
	ways[0].Put(2, at("c", 5), at("b", 1), at("a", 2))
	ways[0].Put(1, at("b", 5), at("a", 5), at("d", 9))
	ways[0].Put(2)
	ways[1].Put(2, at("c", 4))
	ways[1].Put(2)
	ways[1].Put(2, at("c", 5))
	ways[1].Put(2, at("b", 4))
	ways[1].Put(1, at("b", 5), at("b", 5), at("b", 3), at("a", 5))
	ways[2].Put(1, at("b", 5), at("a", 5), at("b", 4))
	ways[2].Put(2, at("a", 5), at("c", 5))
	ways[2].Put(2, at("a", 5))
	for i, o := range ways {
		checkSame(t, s, o, true)
		for name, do := range goings() {
			one, two := s.Copy(), o.Copy()
			do(one)
			do(two)
			if !one.Same(two) {
				t.Errorf("%d, behind %s", i, name)
			}
		}
	}
}
