package check_test

import (
	"fmt"
	"slices"
	"strings"
	"testing"

	"odometer/api"
	"odometer/check"
	"odometer/fix"
	"odometer/label"
)

// types are the types, and two that are none.
func types() []api.FamilyType {
	return []api.FamilyType{api.TypeUntyped, api.TypeCounter, api.TypeGauge, api.TypeHistogram, api.TypeSummary, -1, api.TypeSummary + 1}
}

// partOf is a sample's part, and the text of its labels but le; false: it does not belong to the family.
func partOf(f api.Family, name string) (string, string, bool) {
	metric, l, e := label.Parse(name)
	parts := map[api.FamilyType]string{api.TypeHistogram: " _bucket _sum _count", api.TypeSummary: " _sum _count"}
	for _, part := range strings.Split(parts[f.Type], " ") {
		if e != api.OK || metric != f.Metric+part {
			continue
		}
		others := ""
		for _, x := range l {
			if x.Name != "le" || part == "_count" {
				others += fmt.Sprintf("%q=%q ", x.Name, x.Value)
			}
		}
		return part, others, true
	}
	return "", "", false
}

// countsBy: does a sample of a part count?
func countsBy(f api.Family, part string) bool {
	return f.Type == api.TypeCounter ||
		f.Type == api.TypeHistogram && (part == "_bucket" || part == "_count") ||
		f.Type == api.TypeSummary && part == "_count"
}

// boundOf is the bound of a bucket of a name; false: it has none.
func boundOf(name string) (n int64, inf, is bool) {
	le, is := label.Get(name, "le")
	if le == "+Inf" {
		return 0, true, true
	}
	n, e := fix.Parse(le)
	return n, false, is && e == api.OK
}

// apart: do two samples of a histogram not hold together?
func apart(f api.Family, a, b api.Sample) bool {
	part, set, _ := partOf(f, a.Name)
	other, same, _ := partOf(f, b.Name)
	if part != "_bucket" || set != same {
		return false
	}
	n, inf, _ := boundOf(a.Name)
	switch other {
	case "_count":
		return inf && a.Value != b.Value
	case "_bucket":
		m, above, _ := boundOf(b.Name)
		rises := !inf && (above || n < m)
		return inf == above && n == m || rises && a.Value > b.Value
	}
	return false
}

// wrongOf is the error of a family, by the chapter's words.
func wrongOf(f api.Family) api.Errno {
	label, sign, bucket := false, false, false
	for i, x := range f.Samples {
		part, set, is := partOf(f, x.Name)
		label = label || !is
		sign = sign || is && countsBy(f, part) && x.Value < 0
		if part != "_bucket" {
			continue
		}
		_, _, bound := boundOf(x.Name)
		bucket = bucket || !bound
		closed := false
		for j, y := range f.Samples {
			bucket = bucket || i != j && apart(f, x, y)
			other, same, _ := partOf(f, y.Name)
			_, inf, _ := boundOf(y.Name)
			closed = closed || other == "_bucket" && same == set && inf
		}
		bucket = bucket || !closed
	}
	switch {
	case label:
		return api.ErrLabel
	case sign:
		return api.ErrRange
	case bucket:
		return api.ErrBucket
	}
	return api.OK
}

// reckon is what Samples has to answer, by the chapter's words.
func reckon(l []api.Family) ([]api.Sample, api.Errno) {
	var all []api.Sample
	twice := false
	for _, f := range l {
		if e := wrongOf(f); e != api.OK {
			return nil, e
		}
		for _, x := range f.Samples {
			part, _, _ := partOf(f, x.Name)
			x.Counts = countsBy(f, part)
			at := 0
			for at < len(all) && all[at].Name < x.Name {
				at++
			}
			twice = twice || at < len(all) && all[at].Name == x.Name
			all = slices.Insert(all, at, x)
		}
	}
	if twice {
		return nil, api.ErrTwice
	}
	return all, api.OK
}

// copyOf is families that share no list with others.
func copyOf(l []api.Family) []api.Family {
	out := slices.Clone(l)
	for i, f := range l {
		out[i].Samples = slices.Clone(f.Samples)
	}
	return out
}

// same: are these the same families?
func same(a, b []api.Family) bool {
	return slices.EqualFunc(a, b, func(x, y api.Family) bool {
		return x.Metric == y.Metric && x.Type == y.Type && x.Help == y.Help && slices.Equal(x.Samples, y.Samples)
	})
}

// checkSamples holds Samples to samples of families, and to leaving these as they are.
func checkSamples(t *testing.T, l []api.Family, want ...api.Sample) {
	t.Helper()
	ahead := copyOf(l)
	if got, e := check.Samples(l); e != api.OK || !slices.Equal(got, want) {
		t.Errorf("Samples(%.500s) = %.500s, %v, want %.500s", fmt.Sprintf("%+v", l), fmt.Sprintf("%+v", got), e, fmt.Sprintf("%+v", want))
	}
	if !same(l, ahead) {
		t.Errorf("Samples(%.500s) changed it", fmt.Sprintf("%+v", ahead))
	}
}

// checkWrong holds Samples to an error, and to leaving the families as they are.
func checkWrong(t *testing.T, want api.Errno, l ...api.Family) {
	t.Helper()
	ahead := copyOf(l)
	if got, e := check.Samples(l); e != want || len(got) > 0 {
		t.Errorf("Samples(%.500s) = %.500s, %v, want %v", fmt.Sprintf("%+v", l), fmt.Sprintf("%+v", got), e, want)
	}
	if !same(l, ahead) {
		t.Errorf("Samples(%.500s) changed it", fmt.Sprintf("%+v", ahead))
	}
}

// checkReckoned holds Samples to the chapter's words, and tells the error.
func checkReckoned(t *testing.T, l ...api.Family) api.Errno {
	t.Helper()
	want, wrong := reckon(l)
	if wrong != api.OK {
		checkWrong(t, wrong, l...)
	} else {
		checkSamples(t, l, want...)
	}
	return wrong
}

// family is a family of these samples.
func family(metric string, t api.FamilyType, l ...api.Sample) api.Family {
	return api.Family{Metric: metric, Type: t, Help: "Some words.", Samples: l}
}

// histogram is a histogram h of these samples.
func histogram(l ...api.Sample) api.Family { return family("h", api.TypeHistogram, l...) }

// of is a sample at 7.
func of(name string, value int64) api.Sample { return api.Sample{Name: name, Value: value, Time: 7} }

// counting is a sample at 7 that counts.
func counting(name string, value int64) api.Sample {
	return api.Sample{Name: name, Value: value, Time: 7, Counts: true}
}

// bucket is a bucket of h with a bound's text.
func bucket(le string, value int64) api.Sample {
	return of("h_bucket{le=\""+le+"\"}", value)
}

// sequence gives numbers below others, the same in each run.
func sequence() func(below int) int {
	state := uint64(1)
	return func(below int) int {
		state = state*6364136223846793005 + 1442695040888963407
		return int(state >> 33 % uint64(below))
	}
}

// checkLists holds Samples to the chapter's words of all families with so many more of the samples at most, behind some.
func checkLists(t *testing.T, f api.Family, pool []api.Sample, most int) {
	t.Helper()
	checkReckoned(t, f)
	if most == 0 || t.Failed() {
		return
	}
	for _, x := range pool {
		f.Samples = append(slices.Clip(f.Samples), x)
		checkLists(t, f, pool, most-1)
		f.Samples = f.Samples[:len(f.Samples)-1]
	}
}

// P11.1, P11.3: all histograms of a few samples
func TestShortHistograms(t *testing.T) {
	checkLists(t, histogram(), []api.Sample{
		bucket("+Inf", 2), bucket("+Inf", 1), bucket("1", 2), bucket("1.0", 1), bucket("-1", 0), bucket("2", 1), of("h_bucket{a=\"\",le=\"+Inf\"}", 3), of("h_bucket{a=\"\",le=\"2\"}", 4),
		of("h_count", 2), of("h_count", 1), of("h_count{a=\"\"}", 3), of("h_count{le=\"+Inf\"}", 5), of("h_sum", -1), of("h", 3), of("h_bucket", 1), of("g", 1),
	}, 3)
	checkLists(t, histogram(), []api.Sample{bucket("+Inf", 2), bucket("1", 2), bucket("0", 1), bucket("1e0", 2), of("h_bucket{a=\"\",le=\"+Inf\"}", 1), of("h_count", 2), of("h_count{a=\"\"}", 2)}, 5)
}

// P11.1, P11.3: all families of each type of a few samples
func TestShortFamilies(t *testing.T) {
	for _, kind := range types() {
		for _, metric := range []string{"a", "a_sum", "", "_"} {
			checkLists(t, family(metric, kind), []api.Sample{
				of("a", 1), of("a", -1), of("a_sum", -1), of("a_count", 1), of("a_count", -1), of("a_count{b=\"\"}", 2), of("a_bucket{le=\"+Inf\"}", 1), of("a_sum_count", 1), of("_count", 1), of("_", 1), of("", 1), of("a{}", 1),
			}, 2)
		}
	}
}

// P11.1, P11.3: of names, each byte becomes each other one, goes, or comes twice.
func TestEachByteOfNames(t *testing.T) {
	rest := []api.Sample{bucket("+Inf", 3), of("h_count", 3), of("h_bucket{a=\"b\",le=\"+Inf\"}", 5), of("h_count{a=\"b\"}", 5)}
	for _, name := range []string{"h_bucket{a=\"b\",le=\"2\"}", "h_bucket{le=\"25e-1\"}", "h_sum{a=\"b\"}", "h_count{a=\"c\"}"} {
		with := func(s string) { checkReckoned(t, histogram(append(slices.Clone(rest), of(s, 2))...)) }
		for i := range len(name) + 1 {
			with(name[:i])
			with(name[i:])
			for c := range 256 {
				one := string([]byte{byte(c)})
				with(name[:i] + one + name[i:])
				if i < len(name) {
					with(name[:i] + one + name[i+1:])
				}
			}
			if i < len(name) {
				with(name[:i] + name[i+1:])
			}
		}
	}
}

// someSet is samples of a set of a histogram, most of them such as may be.
func someSet(next func(below int) int, metric, labels string) []api.Sample {
	comma := ""
	if labels != "" {
		comma = ","
	}
	bounds := []string{"-1", "-0.000001", "0", "0.000001", "1", "2", "10", "1e2"}
	value := int64(next(3))
	var l []api.Sample
	for _, le := range bounds {
		if next(3) == 0 {
			l = append(l, of(metric+"_bucket{"+labels+comma+"le=\""+le+"\"}", value))
			value += int64(next(3))
		}
	}
	if next(24) > 0 {
		l = append(l, of(metric+"_bucket{"+labels+comma+"le=\"+Inf\"}", value))
	}
	braced := ""
	if labels != "" {
		braced = "{" + labels + "}"
	}
	if next(2) == 0 {
		l = append(l, of(metric+"_count"+braced, value))
	}
	if next(2) == 0 {
		l = append(l, of(metric+"_sum"+braced, int64(next(9)-4)))
	}
	return l
}

// someFamily is a family, most of its samples such as may be, in any order.
func someFamily(next func(below int) int, metric string) api.Family {
	f := family(metric, api.FamilyType(next(6)-next(2)))
	sets := []string{"", "a=\"b\"", "a=\"b\",c=\"d\"", "job=\"\\\"\\n\\\\\""}
	for _, labels := range sets {
		switch {
		case next(2) == 0:
		case f.Type == api.TypeHistogram:
			f.Samples = append(f.Samples, someSet(next, metric, labels)...)
		default:
			part := ""
			if f.Type == api.TypeSummary {
				part = []string{"", "_sum", "_count"}[next(3)]
			}
			if labels != "" {
				labels = "{" + labels + "}"
			}
			f.Samples = append(f.Samples, of(metric+part+labels, int64(next(20))))
		}
	}
	for i := range f.Samples {
		j := next(i + 1)
		f.Samples[i], f.Samples[j] = f.Samples[j], f.Samples[i]
		f.Samples[i].Time, f.Samples[i].Counts = int64(next(9)), next(2) == 0
	}
	return f
}

// spoil does a fault, or none, to a family.
func spoil(next func(below int) int, f api.Family) {
	if len(f.Samples) == 0 {
		return
	}
	i, j := next(len(f.Samples)), next(len(f.Samples))
	switch next(6) {
	case 0:
		f.Samples[i].Value = int64(next(9) - 6)
	case 1:
		f.Samples[i].Name = f.Samples[j].Name
	case 2:
		f.Samples[i].Name = f.Metric + []string{"", "_bucket", "_sum", "_count", "_", "{}", "_bucket{le=\"\"}", "_bucket{le=\"1.0\"}"}[next(8)]
	case 3:
		f.Samples[i].Value, f.Samples[j].Value = f.Samples[j].Value, f.Samples[i].Value
	}
}

// P11.1, P11.3
func TestSomeFamilies(t *testing.T) {
	next, came := sequence(), make(map[api.Errno]int)
	for range 60000 {
		metrics := []string{"h", "a", "h_count", "h_sum", "z:9"}
		var l []api.Family
		for range next(4) {
			i := next(len(metrics))
			l = append(l, someFamily(next, metrics[i]))
			if next(4) == 0 {
				spoil(next, l[len(l)-1])
			}
			if next(24) > 0 {
				metrics = slices.Delete(metrics, i, i+1)
			}
		}
		came[checkReckoned(t, l...)]++
		if t.Failed() {
			return
		}
	}
	for _, e := range []api.Errno{api.OK, api.ErrLabel, api.ErrRange, api.ErrBucket, api.ErrTwice} {
		if came[e] < 400 {
			t.Errorf("%v came %d times alone: %v", e, came[e], came)
		}
	}
}
