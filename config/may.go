package config

import (
	"slices"

	"odometer/api"
	"odometer/label"
	"odometer/request"
)

// who is what tells a target's series from those of others.
type who struct {
	job  string
	host string
}

// May is the error of a config that may not be.
func May(c api.Config) api.Errno {
	switch {
	case !mayBeside(c):
		return api.ErrArg
	case !mayGroup(c.By):
		return api.ErrLabel
	}
	return api.OK
}

// MayTarget: may it be?
func MayTarget(t api.Target) bool {
	return all(
		func() bool { return within(len(t.Job), 1, api.MaxValue) },
		func() bool { return request.MayHost(t.Host) },
		func() bool { return request.MayPath(t.Path) },
		func() bool { return mayTurn(t) },
		func() bool { return within(t.Timeout, 1, t.Interval) },
	)
}

// mayBeside: may all be that is set, beside By?
func mayBeside(c api.Config) bool {
	return all(
		func() bool { return within(len(c.Targets), 1, api.MaxTargets) }, // ahead of going over them, which many would make long
		func() bool { return !slices.ContainsFunc(c.Targets, func(t api.Target) bool { return !MayTarget(t) }) },
		func() bool { return apart(c.Targets) },
		func() bool { return within(c.Window, 1, api.MaxInterval) },
		func() bool { return within(c.Lateness, 0, api.MaxInterval) },
		func() bool { return within(c.Series, 1, api.MaxSeries) },
		func() bool { return within(c.Windows, 1, api.MaxWindows) },
		func() bool { return within(c.Queue, 1, api.MaxQueue) },
		func() bool { return within(c.Conns, len(c.Targets), api.MaxConns) },
		func() bool { return within(c.Body, 1, api.MaxBody) },
		func() bool { return within(c.Base, 1, c.Most) },
		func() bool { return c.Most <= api.MaxInterval },
	)
}

// mayGroup: may series be grouped by these?
func mayGroup(by []string) bool {
	if len(by) > api.MaxLabels {
		return false
	}
	for i, word := range by {
		if !label.IsWord(word) || i > 0 && label.Compare(by[i-1], word) >= 0 {
			return false
		}
	}
	return true
}

// apart: are no two targets of one Job and Host?
func apart(l []api.Target) bool {
	seen := map[who]struct{}{}
	for _, t := range l {
		w := who{t.Job, t.Host}
		if _, is := seen[w]; is {
			return false
		}
		seen[w] = struct{}{}
	}
	return true
}

// all asks one behind the other, up to the first that says no.
func all(row ...func() bool) bool {
	for _, may := range row {
		if !may() {
			return false
		}
	}
	return true
}

// within: is it from least to most?
func within[N int | int64](n, least, most N) bool { return least <= n && n <= most }
