package sched_test

import (
	"fmt"
	"math"
	"testing"

	"odometer/api"
)

// P15.3

// Results are told in the order in which scrapes were over, not in that of their beginnings, nor of their targets.
func TestOrderOfResults(t *testing.T) {
	s := begun(t, target("a", 1, 50, 40), target("b", 2, 50, 5), target("c", 3, 50, 30), target("d", 4, 50, 50))
	goOn(t, s, advance(4), accept(4), refuse(3), advance(6), accept(1), arrive(4, byLength("a 1\n")), advance(10), reset(1))
	check(t, "all", s, "2 at 3+1 refused 2; 3 at 4+2 ok 3; 1 at 2+5 timeout 2; 0 at 1+9 reset 2", "4 of 3 kept 2", 51)
	goOn(t, s, advance(51), refuse(5))
	check(t, "one more", s, "0 at 51+0 refused 2", "4 of 3 kept 2", 52)
}

// They wait till they are asked for, however long.
func TestResultsWait(t *testing.T) {
	s := begun(t, target("a", 1, 10, 2))
	goOn(t, s, advance(1), refuse(1), advance(13))
	if is := brief(s.Results()); is != "0 at 1+0 refused 2; 0 at 11+2 timeout 2" {
		t.Error(is)
	}
	goOn(t, s, advance(22), accept(3))
	if l := s.Results(); len(l) != 0 {
		t.Error(l)
	}
	goOn(t, s, end(3), advance(32), accept(4), arrive(4, byLength("a 1\n")))
	check(t, "behind it", s, "0 at 21+1 end 2; 0 at 31+1 ok 3", "4 of 0 kept 2", 41)
}

// P15.4

// Next is the first of all turns and last times that are to come: those of scrapes that are over are not.
func TestNext(t *testing.T) {
	s := begun(t, target("a", 5, 30, 8), target("b", 9, 30, 30))
	for i, x := range []struct {
		do   step
		next int64
	}{
		{advance(0), 5}, {advance(4), 5}, {advance(5), 9}, {advance(8), 9}, {advance(9), 13}, {advance(12), 13},
		{accept(1), 13}, {arrive(1, byLength("a 1\n")), 35}, // the last time comes no more
		{end(1), 35}, {refuse(2), 35}, {advance(35), 39}, {advance(39), 43}, {advance(42), 43}, {advance(43), 65},
		{advance(64), 65}, {advance(65), 69}, {refuse(5), 69}, {advance(69), 95},
	} {
		goOn(t, s, x.do)
		if at, is := s.Next(); at != x.next || !is {
			t.Errorf("%d, %v: %d, %v, want %d", i, x.do, at, is, x.next)
		}
	}
	if is := brief(s.Results()); is != "0 at 5+7 ok 3; 1 at 9+3 refused 2; 0 at 35+8 timeout 2; 0 at 65+0 refused 2; 1 at 39+30 timeout 2" {
		t.Error(is)
	}
}

// From one Next to the other nothing comes between.
func TestByNext(t *testing.T) {
	s := begun(t, target("a", 0, 7, 7), target("b", 2, 5, 1), target("c", 11, 12, 3))
	for s.Now() < 500 {
		at, is := s.Next()
		was := linked(s) + brief(s.Copy().Results())
		if !is || at < s.Now() || at == s.Now() && at > 0 {
			t.Fatalf("at %d: next %d, %v", s.Now(), at, is)
		}
		if at > s.Now() {
			goOn(t, s, advance(at-1))
		}
		if is := linked(s) + brief(s.Copy().Results()); is != was {
			t.Errorf("ahead of %d: %s, it was %s", at, is, was)
		}
		goOn(t, s, advance(at))
		if is := linked(s) + brief(s.Copy().Results()); is == was {
			t.Errorf("at %d nothing came: %s", at, is)
		}
		s.Results()
	}
}

// Links rise by their targets' places, not by their numbers; who has none is not among them.
func TestLinks(t *testing.T) {
	s := begun(t, target("a", 4, 50, 10), target("b", 3, 50, 10), target("c", 2, 50, 10), target("d", 30, 50, 10))
	for i, x := range []struct {
		do   []step
		want string
	}{
		{nil, ""},
		{[]step{advance(2)}, "1 of 2 busy 1"},
		{[]step{advance(4)}, "3 of 0 busy 1; 2 of 1 busy 1; 1 of 2 busy 1"},
		{[]step{accept(3), accept(2), arrive(2, byLength(""))}, "3 of 0 busy 2; 2 of 1 kept 2; 1 of 2 busy 1"},
		{[]step{refuse(1)}, "3 of 0 busy 2; 2 of 1 kept 2"},
		{[]step{advance(14)}, "2 of 1 kept 2"},
		{[]step{advance(30)}, "2 of 1 kept 2; 4 of 3 busy 1"},
		{[]step{advance(52)}, "2 of 1 kept 2; 5 of 2 busy 1"},
		{[]step{advance(53)}, "2 of 1 busy 2; 5 of 2 busy 1"},
		{[]step{advance(54)}, "6 of 0 busy 1; 2 of 1 busy 2; 5 of 2 busy 1"},
		{[]step{end(2), refuse(6)}, "5 of 2 busy 1"},
	} {
		goOn(t, s, x.do...)
		if is := linked(s); is != x.want {
			t.Errorf("%d: %s, want %s", i, is, x.want)
		}
	}
}

// State and Sent of a connection, from its beginning on, as long as it is there.
func TestStateAndSent(t *testing.T) {
	x := alone()
	s := begun(t, x)
	for i, y := range []struct {
		do    []step
		state api.ConnState
		many  int // how many requests were sent
	}{
		{nil, api.ConnNone, 0},
		{[]step{advance(2)}, api.ConnNone, 0},
		{[]step{advance(3)}, api.ConnDialling, 0},
		{[]step{accept(1)}, api.ConnOpen, 1},
		{[]step{arrive(1, "HTTP/1.1 200")}, api.ConnOpen, 1},
		{[]step{arrive(1, byLength("a 1\n")[12:])}, api.ConnOpen, 1},
		{[]step{advance(22)}, api.ConnOpen, 1},
		{[]step{advance(23)}, api.ConnOpen, 2},
		{[]step{arrive(1, byLength("a 1\n")), advance(43)}, api.ConnOpen, 3},
		{[]step{arrive(1, closing("a 1\n"))}, api.ConnNone, 0},
		{[]step{advance(63)}, api.ConnNone, 0}, // that one is another one
	} {
		goOn(t, s, y.do...)
		want := ""
		for range y.many {
			want += ask(x)
		}
		if state, b := s.State(1), s.Sent(1); state != y.state || string(b) != want {
			t.Errorf("%d: state %d, sent %q; want %d, %q", i, state, b, y.state, want)
		}
	}
	for _, id := range []int{math.MinInt, -1, 0, 1, 3, math.MaxInt} {
		if s.State(id) != api.ConnNone || len(s.Sent(id)) != 0 {
			t.Errorf("there is something of %d", id)
		}
	}
	if s.State(2) != api.ConnDialling {
		t.Error(s.State(2))
	}
}

// To look changes nothing.
func TestLooksChangeNothing(t *testing.T) {
	for way, steps := range onTheWay() {
		s := begun(t, alone())
		goOn(t, s, steps...)
		was := told(s)
		for range 2 {
			if is := told(s) + fmt.Sprint(s.Now(), s.Links()); is != was+fmt.Sprint(s.Now(), s.Links()) {
				t.Errorf("%s: %s, it was %s", way, is, was)
			}
		}
	}
}
