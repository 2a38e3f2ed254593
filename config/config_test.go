package config_test

import (
	"fmt"
	"math"
	"slices"
	"strings"
	"testing"
	"unsafe"

	"odometer/api"
	"odometer/config"
	"odometer/label"
)

// texts are what may be a job's or a host's value, and what is too great.
func texts() []string {
	return []string{
		"", "a", "a:9100", `"`, `\`, "\n", `a"b`, `a\b`, "a\nb", `\n`, `\\"`, `"} x{b="`, "\x00", "\xff", "é", "a,b", "{}", "instance",
		strings.Repeat("v", api.MaxValue), strings.Repeat("\"", api.MaxValue), strings.Repeat("v", api.MaxValue+1), strings.Repeat("v", 1<<17),
	}
}

// P13.3: Labels

func TestLabels(t *testing.T) {
	for _, job := range texts() {
		for _, host := range texts() {
			x := target()
			x.Job, x.Host = job, host
			want := []api.Label{{Name: "instance", Value: host}, {Name: "job", Value: job}}
			l := config.Labels(x)
			if !slices.Equal(l, want) {
				t.Errorf("Labels(%.100q, %.100q) = %.300q", job, host, l)
			}
			l[0], l[1] = l[1], api.Label{}
			_ = append(l, api.Label{})
			if l := config.Labels(x); !slices.Equal(l, want) {
				t.Errorf("Labels(%.100q, %.100q) = %.300q, once one was changed", job, host, l)
			}
		}
	}
	if l := config.Labels(api.Target{}); !slices.Equal(l, []api.Label{{Name: "instance"}, {Name: "job"}}) {
		t.Errorf("%q", l)
	}
}

// P13.3: Name

func TestName(t *testing.T) {
	for _, x := range []struct{ metric, job, host, want string }{
		{"up", "node", "a:9100", `up{instance="a:9100",job="node"}`},
		{"up", "", "", `up{instance="",job=""}`},
		{"a:b_9", "j", "h", `a:b_9{instance="h",job="j"}`},
		{"_", `a"b`, `c\d`, `_{instance="c\\d",job="a\"b"}`},
		{"x", "a\nb", "\n", `x{instance="\n",job="a\nb"}`},
		{"x", `a\nb`, `\"`, `x{instance="\\\"",job="a\\nb"}`},
		{"x", "a\x00\xff", "é{,}=", "x{instance=\"é{,}=\",job=\"a\x00\xff\"}"},
		{strings.Repeat("m", 200), "j", "h", strings.Repeat("m", 200) + `{instance="h",job="j"}`},
		{"x", strings.Repeat("\n", 1024), "h", `x{instance="h",job="` + strings.Repeat(`\n`, 1024) + `"}`},
		{"x", "j", strings.Repeat(`"`, 1024), `x{instance="` + strings.Repeat(`\"`, 1024) + `",job="j"}`},
		{"instance", "j", "h", `instance{instance="h",job="j"}`},
		// what is no series
		{"", "j", "h", ""}, {"9", "j", "h", ""}, {"a b", "j", "h", ""}, {"a-b", "j", "h", ""}, {"a ", "j", "h", ""}, {" a", "j", "h", ""}, {"a\n", "j", "h", ""}, {"\xff", "j", "h", ""}, {"é", "j", "h", ""},
		{"a{}", "j", "h", ""}, {`a{b="c"}`, "j", "h", ""}, {`a{instance="h",job="j"}`, "j", "h", ""}, {strings.Repeat("m", 201), "j", "h", ""}, {strings.Repeat("m", 1<<20), "j", "h", ""},
		{"x", strings.Repeat("j", 1025), "h", ""}, {"x", "j", strings.Repeat("h", 1025), ""}, {"x", strings.Repeat("j", 1025), strings.Repeat("h", 1025), ""},
	} {
		for _, y := range []api.Target{target(), {}} { // nothing but the job and the host is asked for
			y.Job, y.Host = x.job, x.host
			if s := config.Name(x.metric, y); s != x.want {
				t.Errorf("Name(%.100q; %.100q, %.100q) = %.300q", x.metric, x.job, x.host, s)
			}
		}
	}
}

// A name tells the metric, and both labels.
func TestNameReadBack(t *testing.T) {
	for _, metric := range []string{"up", "a:b", "", "9", "a{}", strings.Repeat("m", 200), strings.Repeat("m", 201)} {
		for _, job := range texts() {
			for _, host := range texts() {
				x := api.Target{Job: job, Host: host}
				is := metric != "" && label.IsMetric(metric) && max(len(job), len(host)) <= api.MaxValue
				s := config.Name(metric, x)
				if !is {
					if s != "" {
						t.Errorf("Name(%.100q; %.100q, %.100q) = %.300q", metric, job, host, s)
					}
					continue
				}
				m, l, e := label.Parse(s)
				if m != metric || e != api.OK || !slices.Equal(l, config.Labels(x)) {
					t.Errorf("Name(%.100q; %.100q, %.100q) = %.300q", metric, job, host, s)
				}
			}
		}
	}
}

// P13.4: Copy

// like are configs, each unlike all others.
func like() []api.Config {
	l := []api.Config{{}, set()}
	for _, change := range fields() {
		l = append(l, changed(change))
	}
	return l
}

// fields are changes of one field each, or of how many there are, or of their order.
func fields() []func(c *api.Config) {
	return []func(c *api.Config){
		func(c *api.Config) { c.Targets[0].Job = "z" }, func(c *api.Config) { c.Targets[0].Host = "z" }, func(c *api.Config) { c.Targets[0].Path = "/z" },
		func(c *api.Config) { c.Targets[0].Interval = 5000 }, func(c *api.Config) { c.Targets[0].Timeout = 5 },
		func(c *api.Config) { c.Targets[2].Job = "z" }, func(c *api.Config) { c.Targets[2].Host = "z" }, func(c *api.Config) { c.Targets[2].Path = "/z" },
		func(c *api.Config) { c.Targets[2].Interval = 5000 }, func(c *api.Config) { c.Targets[2].Timeout = 5 },
		func(c *api.Config) { c.Targets[0].Job = "" }, func(c *api.Config) { c.Targets[0].Interval = -1000 }, func(c *api.Config) { c.Targets[0].Job, c.Targets[0].Host = "job", "Aa:9100" },
		func(c *api.Config) { c.Targets = c.Targets[:2] }, func(c *api.Config) { c.Targets = c.Targets[1:] }, func(c *api.Config) { c.Targets = targets(4) }, func(c *api.Config) { c.Targets = nil }, func(c *api.Config) { c.Targets = targets(1) },
		func(c *api.Config) { c.Targets[0], c.Targets[1] = c.Targets[1], c.Targets[0] }, func(c *api.Config) { c.Targets[1], c.Targets[2] = c.Targets[2], c.Targets[1] }, func(c *api.Config) { c.Targets[1] = c.Targets[0] },
		func(c *api.Config) { c.Window = 9999 }, func(c *api.Config) { c.Lateness = 501 }, func(c *api.Config) { c.Lateness = 0 }, func(c *api.Config) { c.Window, c.Lateness = 500, 10000 },
		func(c *api.Config) { c.By = nil }, func(c *api.Config) { c.By = []string{} }, func(c *api.Config) { c.By = []string{"code"} }, func(c *api.Config) { c.By = []string{"job"} }, func(c *api.Config) { c.By = []string{"job", "code"} },
		func(c *api.Config) { c.By = []string{"code", "job", "le"} }, func(c *api.Config) { c.By = []string{"code", ""} }, func(c *api.Config) { c.By = []string{"codejob"} }, func(c *api.Config) { c.By = []string{""} }, func(c *api.Config) { c.By = []string{"Code", "job"} },
		func(c *api.Config) { c.Series = 101 }, func(c *api.Config) { c.Windows = 7 }, func(c *api.Config) { c.Queue = 8 }, func(c *api.Config) { c.Conns = 5 }, func(c *api.Config) { c.Body = 65537 },
		func(c *api.Config) { c.Windows, c.Queue = 9, 8 }, func(c *api.Config) { c.Series, c.Body = 65536, 100 }, func(c *api.Config) { c.Conns = -4 },
		func(c *api.Config) { c.Base = 101 }, func(c *api.Config) { c.Most = 999 }, func(c *api.Config) { c.Base, c.Most = 1000, 100 }, func(c *api.Config) { c.Base = math.MinInt64 }, func(c *api.Config) { c.Most = 1000 + 1<<32 },
	}
}

// told is a config in words, a nil list apart from one without items.
func told(c api.Config) string { return fmt.Sprintf("%#v", c) }

func TestCopy(t *testing.T) {
	for _, c := range like() {
		was := told(c)
		d := config.Copy(c)
		if told(d) != was || told(c) != was || !config.Same(c, d) || !config.Same(d, c) {
			t.Errorf("Copy(%s) = %s", was, told(d))
		}
		if config.May(c) != config.May(d) {
			t.Errorf("May(%s)", was)
		}
	}
	for _, c := range []api.Config{{Targets: []api.Target{}, By: []string{}}, {Targets: []api.Target{}}, {By: []string{}}} {
		if d := config.Copy(c); told(d) != told(c) {
			t.Errorf("Copy(%s) = %s", told(c), told(d))
		}
	}
}

// spoil changes all that a config reaches.
func spoil(c *api.Config) {
	for i := range c.Targets {
		c.Targets[i] = api.Target{Job: "spoilt", Interval: int64(i)}
	}
	for i := range c.By {
		c.By[i] = "spoilt"
	}
	c.Targets, c.By = append(c.Targets, target()), append(c.By, "more")
	c.Window, c.Lateness, c.Series, c.Windows, c.Queue, c.Conns, c.Body, c.Base, c.Most = -1, -2, -3, -4, -5, -6, -7, -8, -9
}

// What is done to one of both leaves the other as it was.
func TestCopyShares(t *testing.T) {
	for _, c := range append(like(), api.Config{Targets: []api.Target{}, By: []string{}}) {
		was := told(c)
		d := config.Copy(c)
		spoil(&d)
		if told(c) != was {
			t.Errorf("it was %s, and is %s", was, told(c))
		}
		d = config.Copy(c)
		spoil(&c)
		if told(d) != was {
			t.Errorf("a copy was %s, and is %s", was, told(d))
		}
	}
}

// The very bytes of texts are new, too.
func TestCopySharesNoText(t *testing.T) {
	c := set()
	d := config.Copy(c)
	pairs := [][2]string{{c.By[0], d.By[0]}, {c.By[1], d.By[1]}}
	for i, x := range c.Targets {
		y := d.Targets[i]
		l := config.Labels(x)
		pairs = append(pairs, [2]string{x.Job, y.Job}, [2]string{x.Host, y.Host}, [2]string{x.Path, y.Path}, [2]string{x.Host, l[0].Value}, [2]string{x.Job, l[1].Value})
	}
	for _, x := range pairs {
		if x[0] != x[1] || unsafe.StringData(x[0]) == unsafe.StringData(x[1]) {
			t.Errorf("%q, %q", x[0], x[1])
		}
	}
}

// Lists with room behind, in which something stands, are copied without it.
func TestCopyOfRoom(t *testing.T) {
	for many := range 4 {
		c := set()
		room, words := append(c.Targets, target()), append(c.By, "z", "zz")
		c.Targets, c.By = room[:many], words[:many]
		was := told(c)
		d := config.Copy(c)
		d.Targets, d.By = append(d.Targets, api.Target{Job: "other"}), append(d.By, "other")
		if want := set(); told(c) != was || room[3] != target() || !slices.Equal(room[:3], want.Targets) || !slices.Equal(words, append(want.By, "z", "zz")) {
			t.Errorf("%v, %v", room, words)
		}
		c.Targets, c.By = append(c.Targets, api.Target{Job: "another"}), append(c.By, "another")
		if d.Targets[many].Job != "other" || d.By[many] != "other" {
			t.Errorf("%v", d)
		}
	}
}

// P13.4: Same

func TestSame(t *testing.T) {
	a, b := like(), like()
	for i := range a {
		for j := range b {
			was, with := told(a[i]), told(b[j])
			if is := config.Same(a[i], b[j]); is != (i == j) {
				t.Errorf("Same(%s, %s) = %v", was, with, is)
			}
			if told(a[i]) != was || told(b[j]) != with {
				t.Errorf("Same(%s, %s) changed one", was, with)
			}
		}
	}
}

// A By that is nil and one without words are not the same; lists of targets without one are.
func TestSameOfNone(t *testing.T) {
	none, without := api.Config{}, api.Config{By: []string{}}
	if config.Same(none, without) || config.Same(without, none) || !config.Same(none, none) || !config.Same(without, without) {
		t.Error("of By")
	}
	some := set()
	some.By = some.By[:0]
	if config.Same(some, changed(func(c *api.Config) { c.By = nil })) || !config.Same(some, changed(func(c *api.Config) { c.By = []string{} })) {
		t.Error("of By, of more")
	}
	if !config.Same(none, api.Config{Targets: []api.Target{}}) || !config.Same(api.Config{Targets: []api.Target{}}, none) {
		t.Error("of targets")
	}
}

// Each place of long lists is looked at.
func TestSamePlaces(t *testing.T) {
	long := func() api.Config {
		return changed(func(c *api.Config) { c.Targets, c.By = targets(100), words(100) })
	}
	for i := range 100 {
		c, d := long(), long()
		c.Targets[i].Timeout++
		d.By[i] += "x"
		if config.Same(c, long()) || config.Same(long(), d) || !config.Same(config.Copy(c), c) || !config.Same(config.Copy(d), d) {
			t.Error(i)
		}
	}
}
