package config_test

import (
	"math"
	"strconv"
	"strings"
	"testing"

	"odometer/api"
	"odometer/config"
)

// hosts are targets whose names differ, some by where their parts meet alone.
func hosts() []api.Target {
	l := []api.Target{
		{}, {Job: "a"}, {Host: "a"}, {Path: "a"}, {Job: "abc"}, {Host: "abc"}, {Path: "abc"}, {Job: "ab", Host: "c"}, {Job: "a", Host: "bc"}, {Job: "a", Host: "b", Path: "c"},
		{Job: "ab", Path: "c"}, {Job: "a", Path: "bc"}, {Host: "ab", Path: "c"}, {Host: "a", Path: "bc"}, {Job: "c", Host: "b", Path: "a"},
		{Job: "\x00"}, {Host: "\x00"}, {Job: "a\x00", Host: "b"}, {Job: "a", Host: "\x00b"}, {Job: "\xff\x00", Path: "\x80"}, {Job: "é", Host: "é", Path: "é"},
		{Job: strings.Repeat("j", 5000), Host: strings.Repeat("h", 5000), Path: strings.Repeat("p", 5000)},
	}
	for i := range 60 {
		x := target()
		x.Path += strings.Repeat("x", i)
		l = append(l, x)
	}
	return l
}

// intervals are those of targets that have turns.
func intervals() []int64 {
	return []int64{1, 2, 3, 7, 10, 50, 1000, 60000, 1 << 20, api.MaxInterval - 1, api.MaxInterval}
}

// P13.2: Offset

func TestOffset(t *testing.T) {
	for _, x := range []struct {
		job, host, path string
		interval, want  int64
	}{
		{"node", "a:9100", "/metrics", 1, 0}, {"node", "a:9100", "/metrics", 2, 0}, {"node", "a:9100", "/metrics", 1000, 944}, {"node", "a:9100", "/metrics", api.MaxInterval, 966375592}, {"node", "a:9100", "/metrics", api.MaxInterval - 1, 60943808},
		{"a", "\x00b", "", api.MaxInterval, 280650302}, {"a\x00", "b", "", api.MaxInterval, 280650302}, {"", "", "", 7, 5}, {"", "", "", 1000, 389}, {"\xff\x00", "", "\x80", 1000, 62}, {"\xff\x00", "", "\x80", api.MaxInterval, 1045625550}, {"j", "b:1", "/m", 7, 5},
	} {
		if n := config.Offset(api.Target{Job: x.job, Host: x.host, Path: x.path, Interval: x.interval}); n != x.want {
			t.Errorf("Offset of %q, %q, %q, %d: %d, want %d", x.job, x.host, x.path, x.interval, n, x.want)
		}
	}
}

// An offset hangs on all three parts, on where they meet, and on the interval; on nothing else.
func TestOffsets(t *testing.T) {
	seen := map[int64]api.Target{}
	for _, x := range hosts() {
		for _, x.Interval = range intervals() {
			want := offset(x)
			for _, x.Timeout = range []int64{0, 1, x.Interval, -1, math.MaxInt64} { // a target that may not be has turns, too
				if n := config.Offset(x); n != want || n < 0 || n >= x.Interval {
					t.Errorf("Offset(%.200q, %.200q, %.200q, %d) = %d, want %d", x.Job, x.Host, x.Path, x.Interval, n, want)
				}
			}
		}
		if strings.Contains(x.Job+x.Host, "\x00") { // such a byte may stand for where parts meet
			continue
		}
		n := config.Offset(x)
		if other, is := seen[n]; is {
			t.Errorf("one offset, %d, of %.100q, %.100q, %.100q and %.100q, %.100q, %.100q", n, x.Job, x.Host, x.Path, other.Job, other.Host, other.Path)
		}
		seen[n] = x
	}
}

// An interval that may not be has no turns.
func TestNoTurns(t *testing.T) {
	for _, x := range hosts() {
		for _, x.Interval = range []int64{math.MinInt64, math.MinInt64 + 1, -api.MaxInterval, -10, -1, 0, api.MaxInterval + 1, 1 << 40, api.MaxTime, math.MaxInt64} {
			if n := config.Offset(x); n != 0 {
				t.Errorf("Offset, of an interval of %d: %d", x.Interval, n)
			}
			for _, at := range times(x) {
				if n := config.Due(x, at); n != 0 {
					t.Errorf("Due, of an interval of %d, at %d: %d", x.Interval, at, n)
				}
				for _, to := range times(x) {
					if n := config.Turns(x, at, to); n != 0 {
						t.Errorf("Turns, of an interval of %d, from %d to %d: %d", x.Interval, at, to, n)
					}
				}
			}
		}
	}
}

// times are times at the edges of a target's turns, and of all times.
func times(x api.Target) []int64 {
	return []int64{
		math.MinInt64, -api.MaxTime, -1, 0, 1, 2, 3, x.Interval - 1, x.Interval, x.Interval + 1, 2 * x.Interval, 12345, 1 << 31, 1 << 40,
		api.MaxTime - api.MaxInterval, api.MaxTime - 1, api.MaxTime, api.MaxTime + 1, math.MaxInt64 - 1, math.MaxInt64,
	}
}

// P13.2: Due

// ofOffset is a target of an offset.
func ofOffset(want, interval int64) api.Target {
	x := target()
	x.Interval = interval
	for i := 0; offset(x) != want; i++ {
		x.Path = "/" + strconv.Itoa(i)
	}
	return x
}

func TestDue(t *testing.T) {
	x := ofOffset(3, 10)
	for now, want := range map[int64]int64{
		math.MinInt64: 3, -7: 3, -1: 3, 0: 3, 1: 3, 2: 3, 3: 3, 4: 13, 12: 13, 13: 13, 14: 23, 23: 23, 1000: 1003, 1003: 1003, 1004: 1013,
		// MaxTime is 1125899906842624: the first turn behind it may be told still
		api.MaxTime - 2: api.MaxTime - 1, api.MaxTime - 1: api.MaxTime - 1, api.MaxTime: api.MaxTime + 9, api.MaxTime + 1: api.MaxTime + 9, api.MaxTime + 100: api.MaxTime + 9, math.MaxInt64: api.MaxTime + 9,
	} {
		if n := config.Due(x, now); n != want {
			t.Errorf("Due at %d is %d, want %d", now, n, want)
		}
	}
	x = ofOffset(4, 10) // it has a turn at MaxTime itself
	for now, want := range map[int64]int64{api.MaxTime - 10: api.MaxTime - 10, api.MaxTime - 9: api.MaxTime, api.MaxTime: api.MaxTime, api.MaxTime + 1: api.MaxTime, math.MaxInt64: api.MaxTime} {
		if n := config.Due(x, now); n != want {
			t.Errorf("Due at %d is %d, want %d", now, n, want)
		}
	}
	x = ofOffset(0, 10)
	for now, want := range map[int64]int64{math.MinInt64: 0, -10: 0, -1: 0, 0: 0, 1: 10, 9: 10, 10: 10, 11: 20} {
		if n := config.Due(x, now); n != want {
			t.Errorf("Due at %d is %d, want %d", now, n, want)
		}
	}
}

// clip is a time from 0 to MaxTime.
func clip(at int64) int64 {
	if at < 0 {
		return 0
	}
	if at > api.MaxTime {
		return api.MaxTime
	}
	return at
}

// Due is a turn, not ahead of the time, and less than an interval behind it, or the first of all.
func TestDueAnywhere(t *testing.T) {
	for _, x := range hosts() {
		for _, x.Interval = range intervals() {
			for _, now := range times(x) {
				n := config.Due(x, now)
				if !isTurn(x, n) || n < clip(now) || n-clip(now) >= x.Interval {
					t.Errorf("Due(%.100q, %.100q, %.100q, %d; %d) = %d", x.Job, x.Host, x.Path, x.Interval, now, n)
				}
			}
		}
	}
}

// P13.5
func TestTurnsFollow(t *testing.T) {
	for _, x := range hosts() {
		for _, x.Interval = range intervals() {
			for _, now := range times(x) {
				n := config.Due(x, now)
				if n >= api.MaxTime {
					continue
				}
				if same, next := config.Due(x, n), config.Due(x, n+1); same != n || next != n+x.Interval {
					t.Errorf("%d: %d is due, then %d, then %d", now, n, same, next)
				}
				if n-x.Interval >= 0 && (config.Due(x, n-x.Interval) != n-x.Interval || config.Due(x, n-x.Interval+1) != n) {
					t.Errorf("ahead of %d: %d", n, config.Due(x, n-x.Interval))
				}
				if n < x.Interval && config.Due(x, 0) != n {
					t.Errorf("the first: %d, and %d", n, config.Due(x, 0))
				}
				if a, b, c, d := config.Turns(x, n, n+1), config.Turns(x, n+1, n+1+x.Interval), config.Turns(x, n-1, n), config.Turns(x, n, n+x.Interval); n+1+x.Interval <= api.MaxTime && (a != 1 || b != 1 || d != 1 || n > 0 && x.Interval > 1 && c != 0) {
					t.Errorf("about %d: %d, %d, %d, %d", n, a, b, c, d)
				}
			}
		}
	}
}

// P13.2: Turns

func TestTurns(t *testing.T) {
	x := ofOffset(3, 10)
	for _, y := range []struct{ from, to, want int64 }{
		{0, 0, 0}, {3, 3, 0}, {13, 13, 0}, {4, 3, 0}, {100, 0, 0}, {13, 3, 0}, {0, 3, 0}, {0, 4, 1}, {3, 4, 1}, {4, 13, 0}, {4, 14, 1}, {3, 13, 1}, {3, 14, 2}, {12, 14, 1}, {13, 14, 1}, {14, 15, 0}, {14, 23, 0},
		{0, 100, 10}, {0, 103, 10}, {0, 104, 11}, {1, 1001, 100}, {3, 1003, 100}, {4, 1004, 100}, {5, 1000000003, 99999999}, {0, 1000000000, 100000000},
		{-100, 0, 0}, {-100, 3, 0}, {-7, 3, 0}, {-7, 4, 1}, {math.MinInt64, 14, 2}, {-100, -1, 0}, {-1, -100, 0}, {math.MinInt64, math.MinInt64, 0}, {5, -5, 0}, {5, math.MinInt64, 0},
		{0, api.MaxTime, 112589990684263}, {0, math.MaxInt64, 112589990684263}, {math.MinInt64, math.MaxInt64, 112589990684263}, {math.MaxInt64, math.MinInt64, 0},
		{api.MaxTime - 1, api.MaxTime, 1}, {api.MaxTime - 1, api.MaxTime - 1, 0}, {api.MaxTime - 2, api.MaxTime - 1, 0}, {api.MaxTime - 1, math.MaxInt64, 1}, {api.MaxTime, math.MaxInt64, 0}, {api.MaxTime, api.MaxTime + 100, 0}, {api.MaxTime + 100, api.MaxTime + 1000, 0},
	} {
		if n := config.Turns(x, y.from, y.to); n != y.want {
			t.Errorf("Turns from %d to %d: %d, want %d", y.from, y.to, n, y.want)
		}
	}
	x = ofOffset(4, 10) // it has a turn at MaxTime itself, ahead of which all that is told stands
	if a, b := config.Turns(x, api.MaxTime, math.MaxInt64), config.Turns(x, api.MaxTime-9, math.MaxInt64); a != 0 || b != 0 {
		t.Errorf("%d, %d", a, b)
	}
	x = ofOffset(0, 10)
	if a, b, c := config.Turns(x, 0, 1), config.Turns(x, -5, 1), config.Turns(x, -5, 0); a != 1 || b != 1 || c != 0 {
		t.Errorf("%d, %d, %d", a, b, c)
	}
}

// All short ways are held to turns that are counted one by one.
func TestTurnsOneByOne(t *testing.T) {
	for _, interval := range []int64{1, 2, 3, 5, 10, 16} {
		for at := range interval {
			x := ofOffset(at, interval)
			for from := int64(-4); from < 40; from++ {
				for to := int64(-4); to < 40; to++ {
					want := int64(0)
					for now := from; now < to; now++ {
						if isTurn(x, now) {
							want++
						}
					}
					if n := config.Turns(x, from, to); n != want {
						t.Errorf("of an offset %d, an interval of %d: Turns from %d to %d: %d, want %d", at, interval, from, to, n, want)
					}
				}
				due := max(from, 0)
				for !isTurn(x, due) {
					due++
				}
				if n := config.Due(x, from); n != due {
					t.Errorf("of an offset %d, an interval of %d: Due at %d: %d, want %d", at, interval, from, n, due)
				}
			}
		}
	}
}

// Far ways are held to turns that are walked from one to the next, or reckoned.
func TestTurnsFar(t *testing.T) {
	for _, x := range hosts() {
		for _, x.Interval = range intervals() {
			first := offset(x)
			below := func(at int64) int64 { // how many turns stand ahead of a time
				if clip(at) <= first {
					return 0
				}
				return (clip(at)-1-first)/x.Interval + 1
			}
			for _, from := range times(x) {
				for _, to := range times(x) {
					want := below(to) - below(from)
					if to <= from {
						want = 0
					}
					if n := config.Turns(x, from, to); n != want {
						t.Errorf("of an offset %d, an interval of %d: Turns from %d to %d: %d, want %d", first, x.Interval, from, to, n, want)
					}
				}
			}
			if x.Interval < 1000 {
				continue
			}
			due, many := config.Due(x, 0), int64(0)
			for range 50 {
				if n := config.Turns(x, 0, due); n != many {
					t.Errorf("to %d: %d, want %d", due, n, many)
				}
				due, many = config.Due(x, due+1), many+1
			}
		}
	}
}
