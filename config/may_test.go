package config_test

import (
	"fmt"
	"math"
	"slices"
	"strings"
	"testing"

	"odometer/api"
	"odometer/config"
)

// P13.1: MayTarget

func TestJobs(t *testing.T) {
	x := target()
	for size, want := range map[int]bool{0: false, 1: true, 2: true, 1023: true, api.MaxValue: true, api.MaxValue + 1: false, 2048: false, 1 << 20: false} {
		for _, c := range []string{"j", "\x00", "\xff", "\n"} {
			x.Job = strings.Repeat(c, size)
			checkTarget(t, x, want)
		}
	}
	for i := range 256 {
		x.Job = string([]byte{byte(i)})
		checkTarget(t, x, true)
	}
	for _, x.Job = range []string{" ", "a b", `a"b\c`, "{}", "é", strings.Repeat("é", 512), "9", "a:b"} {
		checkTarget(t, x, true)
	}
	x.Job = strings.Repeat("é", 512) + "e"
	checkTarget(t, x, false)
}

func TestHosts(t *testing.T) {
	x := target()
	for i := range 256 {
		x.Host = string([]byte{byte(i)})
		checkTarget(t, x, hostForm.MatchString(x.Host))
	}
	for _, x.Host = range []string{"a", "a:80", "[::1]:9100", "A-b.9", strings.Repeat("h", 255)} {
		checkTarget(t, x, true)
	}
	for _, x.Host = range []string{"", " ", "a b", "a/", "a_b", "a\n", "a\x00", "é", "a@b", strings.Repeat("h", 256), strings.Repeat("h", 1<<20)} {
		checkTarget(t, x, false)
	}
}

func TestPaths(t *testing.T) {
	x := target()
	for i := range 256 {
		x.Path = "/" + string([]byte{byte(i)})
		checkTarget(t, x, pathForm.MatchString(x.Path))
	}
	for _, x.Path = range []string{"/", "//", "/metrics", "/a?b=c&d", "/~", "/" + strings.Repeat("p", 1023)} {
		checkTarget(t, x, true)
	}
	for _, x.Path = range []string{"", "m", "a/", " /", "/ ", "/a b", "/a#b", "/\n", "/\x7f", "/é", "/" + strings.Repeat("p", 1024), strings.Repeat("/", 1<<20)} {
		checkTarget(t, x, false)
	}
}

func TestIntervals(t *testing.T) {
	x := target()
	for interval, want := range map[int64]bool{
		math.MinInt64: false, -1000: false, -1: false, 0: false, 1: true, 2: true, 999: true,
		api.MaxInterval - 1: true, api.MaxInterval: true, api.MaxInterval + 1: false, 1 << 40: false, math.MaxInt64: false,
	} {
		x.Interval, x.Timeout = interval, 1
		checkTarget(t, x, want)
		x.Timeout = interval
		checkTarget(t, x, want)
	}
}

func TestTimeouts(t *testing.T) {
	x := target()
	for _, x.Interval = range []int64{1, 2, 1000, api.MaxInterval} {
		for _, x.Timeout = range []int64{1, (x.Interval + 1) / 2, x.Interval} {
			checkTarget(t, x, true)
		}
		for _, x.Timeout = range []int64{math.MinInt64, -x.Interval, -1, 0, x.Interval + 1, 2 * x.Interval, math.MaxInt64} {
			checkTarget(t, x, false)
		}
	}
	checkTarget(t, api.Target{}, false)
	x = target()
	x.Interval, x.Timeout = 0, 0
	checkTarget(t, x, false)
	x.Interval, x.Timeout = -1, -2
	checkTarget(t, x, false)
}

// P13.1: May

func TestMay(t *testing.T) {
	checkMay(t, set(), api.OK)
	checkMay(t, api.Config{}, api.ErrArg)
	checkMay(t, api.Config{Targets: targets(1), Window: 1, Series: 1, Windows: 1, Queue: 1, Conns: 1, Body: 1, Base: 1, Most: 1}, api.OK)
	checkMay(t, api.Config{
		Targets: targets(api.MaxTargets), Window: api.MaxInterval, Lateness: api.MaxInterval, By: words(api.MaxLabels),
		Series: api.MaxSeries, Windows: api.MaxWindows, Queue: api.MaxQueue, Conns: api.MaxConns, Body: api.MaxBody, Base: api.MaxInterval, Most: api.MaxInterval,
	}, api.OK)
}

func TestHowManyTargets(t *testing.T) {
	for many := range 40 {
		want := api.OK
		if many == 0 || many > api.MaxTargets {
			want = api.ErrArg
		}
		checkMay(t, changed(func(c *api.Config) { c.Targets, c.Conns = targets(many), api.MaxConns }), want)
	}
	checkMay(t, changed(func(c *api.Config) { c.Targets, c.Conns = nil, 0 }), api.ErrArg)
	checkMay(t, changed(func(c *api.Config) { c.Targets, c.Conns = nil, 1 }), api.ErrArg)
	checkMay(t, changed(func(c *api.Config) { c.Targets, c.Conns = []api.Target{}, 1 }), api.ErrArg)
	many := make([]api.Target, 1<<20)
	for i := range many {
		many[i] = target()
	}
	if e := config.May(changed(func(c *api.Config) { c.Targets = many })); e != api.ErrArg {
		t.Error(e)
	}
}

// Each target is looked at, in each place.
func TestOneTargetOfMany(t *testing.T) {
	for many := 1; many <= api.MaxTargets; many++ {
		for place := range many {
			for i, spoil := range []func(x *api.Target){
				func(x *api.Target) { x.Job = "" }, func(x *api.Target) { x.Host = "" }, func(x *api.Target) { x.Path = "" }, func(x *api.Target) { x.Interval = 0 },
				func(x *api.Target) { x.Interval = api.MaxInterval + 1 }, func(x *api.Target) { x.Timeout = 0 }, func(x *api.Target) { x.Timeout = x.Interval + 1 },
			} {
				c := changed(func(c *api.Config) { c.Targets, c.Conns = targets(many), many })
				checkMay(t, c, api.OK)
				spoil(&c.Targets[place])
				if checkMay(t, c, api.ErrArg); t.Failed() {
					t.Fatal(many, place, i)
				}
			}
		}
	}
}

func TestTwoTargets(t *testing.T) {
	for _, x := range []struct {
		a, b api.Target
		want api.Errno
	}{
		{api.Target{Job: "j", Host: "h", Path: "/"}, api.Target{Job: "j", Host: "h", Path: "/"}, api.ErrArg},
		{api.Target{Job: "j", Host: "h", Path: "/a"}, api.Target{Job: "j", Host: "h", Path: "/b"}, api.ErrArg},
		{api.Target{Job: "j", Host: "h", Path: "/"}, api.Target{Job: "j", Host: "g", Path: "/"}, api.OK},
		{api.Target{Job: "j", Host: "h", Path: "/"}, api.Target{Job: "i", Host: "h", Path: "/"}, api.OK},
		{api.Target{Job: "j", Host: "h", Path: "/"}, api.Target{Job: "h", Host: "j", Path: "/"}, api.OK},
		{api.Target{Job: "j", Host: "h", Path: "/"}, api.Target{Job: "J", Host: "h", Path: "/"}, api.OK},
		{api.Target{Job: "j", Host: "h", Path: "/"}, api.Target{Job: "j", Host: "H", Path: "/"}, api.OK},
		{api.Target{Job: "ab", Host: "c", Path: "/"}, api.Target{Job: "a", Host: "bc", Path: "/"}, api.OK},
		{api.Target{Job: "a:", Host: "b", Path: "/"}, api.Target{Job: "a", Host: ":b", Path: "/"}, api.OK},
		{api.Target{Job: "a\x00", Host: "b", Path: "/"}, api.Target{Job: "a", Host: "b", Path: "/"}, api.OK},
		{api.Target{Job: "a\x00b", Host: "c", Path: "/"}, api.Target{Job: "a", Host: "c", Path: "/"}, api.OK},
		{api.Target{Job: "\xff", Host: "c", Path: "/"}, api.Target{Job: "\xfe", Host: "c", Path: "/"}, api.OK},
		{api.Target{Job: strings.Repeat("j", 1024), Host: strings.Repeat("h", 255), Path: "/a"}, api.Target{Job: strings.Repeat("j", 1024), Host: strings.Repeat("h", 255), Path: "/b"}, api.ErrArg},
	} {
		x.a.Interval, x.a.Timeout = 10, 10
		x.b.Interval, x.b.Timeout = 20, 5 // other times make no other target
		for many := 2; many <= api.MaxTargets; many++ {
			for i := range many {
				for j := range many {
					if i == j {
						continue
					}
					c := changed(func(c *api.Config) { c.Targets, c.Conns = targets(many), many })
					c.Targets[i], c.Targets[j] = x.a, x.b
					checkMay(t, c, x.want)
				}
			}
		}
	}
}

// Each number has its least and its greatest value.
func TestNumbers(t *testing.T) {
	for name, x := range map[string]struct {
		least, most int64
		put         func(c *api.Config, n int64)
	}{
		"window":   {1, api.MaxInterval, func(c *api.Config, n int64) { c.Window = n }},
		"lateness": {0, api.MaxInterval, func(c *api.Config, n int64) { c.Lateness = n }},
		"series":   {1, api.MaxSeries, func(c *api.Config, n int64) { c.Series = int(n) }},
		"windows":  {1, api.MaxWindows, func(c *api.Config, n int64) { c.Windows = int(n) }},
		"queue":    {1, api.MaxQueue, func(c *api.Config, n int64) { c.Queue = int(n) }},
		"conns":    {3, api.MaxConns, func(c *api.Config, n int64) { c.Conns = int(n) }},
		"body":     {1, api.MaxBody, func(c *api.Config, n int64) { c.Body = int(n) }},
		"base":     {1, 1000, func(c *api.Config, n int64) { c.Base = n }},
		"most":     {100, api.MaxInterval, func(c *api.Config, n int64) { c.Most = n }},
		"both":     {1, api.MaxInterval, func(c *api.Config, n int64) { c.Base, c.Most = n, n }},
	} {
		for _, n := range []int64{math.MinInt64, -x.most, -1, 0, 1, x.least - 1, x.least, x.least + 1, (x.least + x.most) / 2, x.most - 1, x.most, x.most + 1, 2 * x.most, 1 << 40, math.MaxInt64} {
			want := api.OK
			if n < x.least || n > x.most {
				want = api.ErrArg
			}
			if checkMay(t, changed(func(c *api.Config) { x.put(c, n) }), want); t.Failed() {
				t.Fatal(name, n)
			}
		}
	}
}

func TestConns(t *testing.T) {
	for many := 1; many <= api.MaxTargets; many++ {
		for conns := -1; conns <= api.MaxConns+1; conns++ {
			want := api.OK
			if conns < many || conns > api.MaxConns {
				want = api.ErrArg
			}
			checkMay(t, changed(func(c *api.Config) { c.Targets, c.Conns = targets(many), conns }), want)
		}
	}
}

func TestBaseAndMost(t *testing.T) {
	edges := []int64{math.MinInt64, -2, -1, 0, 1, 2, 500, api.MaxInterval - 1, api.MaxInterval, api.MaxInterval + 1, math.MaxInt64}
	for _, base := range edges {
		for _, most := range edges {
			want := api.OK
			if base < 1 || base > most || most > api.MaxInterval {
				want = api.ErrArg
			}
			checkMay(t, changed(func(c *api.Config) { c.Base, c.Most = base, most }), want)
		}
	}
}

// words are so many words that rise.
func words(many int) []string {
	l := make([]string, many)
	for i := range l {
		l[i] = fmt.Sprintf("w%07d", i)
	}
	return l
}

// checkBy holds May to the error of a By, ErrLabel or none.
func checkBy(t *testing.T, want api.Errno, by ...string) {
	t.Helper()
	checkMay(t, changed(func(c *api.Config) { c.By = by }), want)
}

func TestBy(t *testing.T) {
	checkBy(t, api.OK)
	checkMay(t, changed(func(c *api.Config) { c.By = []string{} }), api.OK)
	checkMay(t, changed(func(c *api.Config) { c.By = nil }), api.OK)
	for many := range 40 {
		want := api.OK
		if many > api.MaxLabels {
			want = api.ErrLabel
		}
		checkBy(t, want, words(many)...)
	}
	checkBy(t, api.ErrLabel, words(1<<20)...)
	for _, word := range []string{"a", "Z", "_", "a9", "le", "job", "instance", "__name__", strings.Repeat("w", api.MaxName)} {
		checkBy(t, api.OK, word)
		checkBy(t, api.ErrLabel, word, word)
	}
	for _, word := range []string{"", " ", "9", "9a", "a:b", ":", "a-b", "a b", "a ", " a", "a\n", "a\x00", "é", "\xff", "a\"", "{a}", strings.Repeat("w", api.MaxName+1), strings.Repeat("w", 1<<20)} {
		checkBy(t, api.ErrLabel, word)
		checkBy(t, api.ErrLabel, "A", word)
		checkBy(t, api.ErrLabel, word, "z")
		checkBy(t, api.ErrLabel, "A", word, "z")
	}
	for i := range 256 {
		for _, word := range []string{string([]byte{byte(i)}), "b" + string([]byte{byte(i)})} {
			want := api.ErrLabel
			if wordForm.MatchString(word) {
				want = api.OK
			}
			checkBy(t, want, word)
		}
	}
}

func TestByRises(t *testing.T) {
	for _, by := range [][]string{{"a", "b"}, {"a", "aa"}, {"A", "a"}, {"Z", "_", "a"}, {"a1", "a10", "a2"}, {"a9", "aA", "aZ", "a_", "aa"}, {"a", "b", "c", "d"}} {
		checkBy(t, api.OK, by...)
		turned := slices.Clone(by)
		slices.Reverse(turned)
		checkBy(t, api.ErrLabel, turned...)
		for i := range by {
			checkBy(t, api.ErrLabel, slices.Insert(slices.Clone(by), i, by[i])...) // the same twice
			for j := range i {
				swapped := slices.Clone(by)
				swapped[i], swapped[j] = swapped[j], swapped[i]
				checkBy(t, api.ErrLabel, swapped...)
			}
		}
	}
	for i := range api.MaxLabels {
		by := words(api.MaxLabels)
		by[i] = "9"
		checkBy(t, api.ErrLabel, by...)
	}
	checkBy(t, api.ErrLabel, "b", "a", "c")
	checkBy(t, api.ErrLabel, "a", "c", "b")
	checkBy(t, api.ErrLabel, "a", "b", "a")
}

// What else may not be comes first.
func TestWhichErrorFirst(t *testing.T) {
	for _, by := range [][]string{{""}, {"b", "a"}, {"a", "a"}, {"a:b"}, words(17)} {
		checkBy(t, api.ErrLabel, by...)
		for i, spoil := range []func(c *api.Config){
			func(c *api.Config) { c.Targets = nil }, func(c *api.Config) { c.Targets, c.Conns = targets(17), 17 }, func(c *api.Config) { c.Targets[2].Job = "" },
			func(c *api.Config) { c.Targets[1] = c.Targets[0] }, func(c *api.Config) { c.Window = 0 }, func(c *api.Config) { c.Lateness = -1 }, func(c *api.Config) { c.Series = 0 },
			func(c *api.Config) { c.Windows = 0 }, func(c *api.Config) { c.Queue = 0 }, func(c *api.Config) { c.Conns = 2 }, func(c *api.Config) { c.Body = 0 },
			func(c *api.Config) { c.Base = 0 }, func(c *api.Config) { c.Base = 1001 }, func(c *api.Config) { c.Most = 1 << 31 },
		} {
			c := set()
			c.By = by
			spoil(&c)
			if checkMay(t, c, api.ErrArg); t.Failed() {
				t.Fatal(by, i)
			}
		}
	}
}

// Configs of all kinds are held to the chapter's words.
func TestMayByTheWords(t *testing.T) {
	next := sequence()
	many := map[api.Errno]int{}
	for range 60000 {
		c := config.Copy(set())
		for range next(4) {
			x := &c.Targets[next(len(c.Targets))]
			switch next(18) {
			case 0:
				x.Job = one(next, "jobA", "jobB", "", "a", strings.Repeat("j", 1024), strings.Repeat("j", 1025))
			case 1:
				x.Host = one(next, "a:9100", "b", "", "a b")
			case 2:
				x.Path = one(next, "/metrics", "/", "", "m", "/#")
			case 3:
				x.Interval = one[int64](next, 0, 1, 199, 200, 201, 1<<30, 1<<30+1, -5)
			case 4:
				x.Timeout = one[int64](next, 0, 1, 999, 1000, 1001, 1<<31, -5)
			case 5:
				c.Targets = append(c.Targets, targets(4 + next(3))[3:]...)
			case 6:
				c.Targets = append(c.Targets, *x)
			case 7:
				c.Window = one[int64](next, -1, 0, 1, 1<<30, 1<<30+1)
			case 8:
				c.Lateness = one[int64](next, -1, 0, 1, 1<<30, 1<<30+1)
			case 9:
				c.Series = one(next, -1, 0, 1, 4096, 4097)
			case 10:
				c.Windows = one(next, -1, 0, 1, 64, 65)
			case 11:
				c.Queue = one(next, -1, 0, 1, 64, 65)
			case 12:
				c.Conns = one(next, -1, 0, 1, 2, 3, 4, 5, 6, 32, 33)
			case 13:
				c.Body = one(next, -1, 0, 1, 1<<20, 1<<20+1)
			case 14:
				c.Base = one[int64](next, -1, 0, 1, 999, 1000, 1001)
			case 15:
				c.Most = one[int64](next, -1, 0, 1, 99, 100, 101, 1<<30, 1<<30+1)
			case 16:
				c.By = append(c.By, one(next, "a", "b", "job", "k", "z", "", "9", "a:b"))
			case 17:
				c.By = words(next(20))
			}
		}
		e := may(c)
		many[e]++
		checkMay(t, c, e)
		for _, x := range c.Targets {
			if is := config.MayTarget(x); is != mayTarget(x) {
				t.Errorf("MayTarget(%.300q) = %v", fmt.Sprint(x), is)
			}
		}
	}
	if many[api.OK] < 1000 || many[api.ErrArg] < 1000 || many[api.ErrLabel] < 1000 {
		t.Error(many)
	}
}
