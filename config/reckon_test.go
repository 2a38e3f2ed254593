package config_test

import (
	"fmt"
	"hash/fnv"
	"math"
	"regexp"
	"strings"
	"testing"

	"odometer/api"
	"odometer/config"
)

var (
	hostForm = regexp.MustCompile(`\A[-a-zA-Z0-9.:\[\]]{1,255}\z`)
	pathForm = regexp.MustCompile(`\A/[!"$-~]{0,1000}[!"$-~]{0,23}\z`)
	wordForm = regexp.MustCompile(`\A[a-zA-Z_][a-zA-Z0-9_]{0,199}\z`)
)

// mayTarget is what MayTarget has to answer, by the chapter's words.
func mayTarget(t api.Target) bool {
	job := t.Job != "" && len(t.Job) <= 1024
	times := 1 <= t.Interval && t.Interval <= 1<<30 && 1 <= t.Timeout && t.Timeout <= t.Interval
	return job && times && hostForm.MatchString(t.Host) && pathForm.MatchString(t.Path)
}

// may is what May has to answer, by the chapter's words.
func may(c api.Config) api.Errno {
	wrong := len(c.Targets) == 0 || len(c.Targets) > 16
	for i, t := range c.Targets {
		wrong = wrong || !mayTarget(t)
		for _, u := range c.Targets[:i] {
			wrong = wrong || t.Job == u.Job && t.Host == u.Host
		}
	}
	for _, x := range [][3]int64{
		{c.Window, 1, 1 << 30}, {c.Lateness, 0, 1 << 30}, {int64(c.Series), 1, 4096}, {int64(c.Windows), 1, 64}, {int64(c.Queue), 1, 64},
		{int64(c.Conns), int64(len(c.Targets)), 32}, {int64(c.Body), 1, 1 << 20}, {c.Base, 1, c.Most}, {c.Most, math.MinInt64, 1 << 30},
	} {
		wrong = wrong || x[0] < x[1] || x[0] > x[2]
	}
	if wrong {
		return api.ErrArg
	}
	wrong = len(c.By) > 16
	for i, word := range c.By {
		wrong = wrong || !wordForm.MatchString(word) || i > 0 && c.By[i-1] >= word
	}
	if wrong {
		return api.ErrLabel
	}
	return api.OK
}

// offset is what Offset has to answer of a target that has turns.
func offset(t api.Target) int64 {
	sum := fnv.New64a()
	sum.Write([]byte(t.Job))
	sum.Write([]byte{0})
	sum.Write([]byte(t.Host))
	sum.Write([]byte{0})
	sum.Write([]byte(t.Path))
	return int64(sum.Sum64() % uint64(t.Interval))
}

// isTurn: is a time one of a target's turns?
func isTurn(t api.Target, at int64) bool { return at >= 0 && at%t.Interval == offset(t) }

// target is a target that may be.
func target() api.Target {
	return api.Target{Job: "node", Host: "a:9100", Path: "/metrics", Interval: 1000, Timeout: 200}
}

// targets are so many targets that may be, each of a job of its own.
func targets(many int) []api.Target {
	l := make([]api.Target, many)
	for i := range l {
		l[i] = target()
		l[i].Job = "job" + string(rune('A'+i%26)) + strings.Repeat("x", i/26)
	}
	return l
}

// set is a config that may be, nothing of which is at an edge.
func set() api.Config {
	return api.Config{
		Targets: targets(3), Window: 10000, Lateness: 500, By: []string{"code", "job"},
		Series: 100, Windows: 8, Queue: 9, Conns: 4, Body: 65536, Base: 100, Most: 1000,
	}
}

// changed is set, changed.
func changed(change func(c *api.Config)) api.Config {
	c := set()
	change(&c)
	return c
}

// show is a config in words.
func show(c api.Config) string { return fmt.Sprintf("%+q", fmt.Sprintf("%+v", c)) }

// checkMay holds May to an error, and to leaving the config as it is.
func checkMay(t *testing.T, c api.Config, want api.Errno) {
	t.Helper()
	if reckoned := may(c); reckoned != want {
		t.Errorf("by the chapter's words it is %v, not %v: %.500s", reckoned, want, show(c))
	}
	was := config.Copy(c)
	if e := config.May(c); e != want {
		t.Errorf("May(%.500s) = %v, want %v", show(c), e, want)
	}
	if !config.Same(c, was) {
		t.Errorf("May(%.500s) changed it", show(was))
	}
}

// checkTarget holds MayTarget, and May of a config with the target, to whether it may be.
func checkTarget(t *testing.T, x api.Target, want bool) {
	t.Helper()
	if is := config.MayTarget(x); is != want {
		t.Errorf("MayTarget(%.300s) = %v", fmt.Sprintf("%+q", fmt.Sprint(x)), is)
	}
	e := api.OK
	if !want {
		e = api.ErrArg
	}
	checkMay(t, changed(func(c *api.Config) { c.Targets = []api.Target{x} }), e)
	for place := range 3 {
		checkMay(t, changed(func(c *api.Config) { c.Targets[place] = x }), e)
	}
}

// sequence gives numbers below others, the same in each run.
func sequence() func(below int) int {
	state := uint64(1)
	return func(below int) int {
		state = state*6364136223846793005 + 1442695040888963407
		return int(state >> 33 % uint64(below))
	}
}

// one is one of some, as a sequence tells.
func one[T any](next func(below int) int, l ...T) T { return l[next(len(l))] }
