package check_test

import (
	"math"
	"slices"
	"strconv"
	"strings"
	"testing"
	"unsafe"

	"odometer/api"
	"odometer/check"
	"odometer/expo"
)

// P11.1: families that hold together

func TestNothing(t *testing.T) {
	checkSamples(t, nil)
	checkSamples(t, []api.Family{})
	for _, kind := range types() {
		for _, metric := range []string{"a", "", "no metric", "9", "\x00\xff", strings.Repeat("n", 1000)} {
			checkSamples(t, []api.Family{family(metric, kind)})
			checkSamples(t, []api.Family{family(metric, kind), {Metric: metric, Type: kind, Samples: []api.Sample{}}})
		}
	}
}

// Of a family without a metric's name, the parts alone are samples' metrics.
func TestNoMetric(t *testing.T) {
	for _, kind := range types() {
		for _, name := range []string{"", "{}", "a", "_", "{a=\"b\"}"} {
			checkWrong(t, api.ErrLabel, family("", kind, of(name, 1)))
		}
		for _, name := range []string{"_bucket{le=\"+Inf\"}", "_sum", "_count"} {
			if kind != api.TypeHistogram && (kind != api.TypeSummary || name == "_bucket{le=\"+Inf\"}") {
				checkWrong(t, api.ErrLabel, family("", kind, of(name, 1)))
			}
		}
	}
	checkSamples(t, []api.Family{family("", api.TypeHistogram, of("_sum", -3), of("_count", 2), of("_bucket{le=\"+Inf\"}", 2))}, counting("_bucket{le=\"+Inf\"}", 2), counting("_count", 2), of("_sum", -3))
	checkSamples(t, []api.Family{family("", api.TypeSummary, of("_sum", -3), of("_count", 2))}, counting("_count", 2), of("_sum", -3))
}

// P11.1: names

func TestNoSeries(t *testing.T) {
	for _, kind := range types() {
		for _, name := range []string{"", "{}", "a{}", "9", "a ", " a", "a\n", "a{b}", "a{b=c}", "a{b=\"c\"", "a{b=\"c\"}x", "a{b=\"c\",}", "a{c=\"\",b=\"\"}", "a{b=\"\",b=\"\"}", "a{b:=\"\"}", "a{b=\"\n\"}", "a{b=\"\\x\"}", "a{b=\"\xff", "a{b=\"" + strings.Repeat("v", 1025) + "\"}"} {
			checkWrong(t, api.ErrLabel, family("a", kind, of(name, 1)))
			checkWrong(t, api.ErrLabel, family("a", kind, of("a", 1), of(name, 1)))
			checkWrong(t, api.ErrLabel, family("a", kind, of(name, 1), of("a", 1)))
			checkWrong(t, api.ErrLabel, family(name, kind, of(name, 1)))
		}
	}
}

func TestOtherMetrics(t *testing.T) {
	belong := map[api.FamilyType]string{api.TypeHistogram: "  a_bucket a_sum a_count ", api.TypeSummary: "  a_sum a_count "}
	for _, kind := range types() {
		for _, metric := range []string{"a_bucket", "a_sum", "a_count", "b", "A", "aa", "a_", "a_total", "a_buckets", "a_sum_sum", "a_Count", "_sum", "_count", "b_count", "xa", "a:"} {
			name := metric + "{le=\"+Inf\"}"
			f := family("a", kind, of("a", 1), of(name, 2))
			if !strings.Contains(belong[kind], " "+metric+" ") {
				checkWrong(t, api.ErrLabel, f)
			} else if _, e := check.Samples([]api.Family{f}); e != api.OK {
				t.Errorf("%s in a family a of type %d: %v", metric, kind, e)
			}
		}
	}
}

// P11.1: what counts, and the sign of values

func TestCountsOfSamples(t *testing.T) {
	count := map[api.FamilyType]string{api.TypeCounter: " a{le=\"+Inf\"} ", api.TypeHistogram: " a_bucket{le=\"+Inf\"} a_count{le=\"+Inf\"} ", api.TypeSummary: " a_count{le=\"+Inf\"} "}
	came := 0
	for _, kind := range types() {
		for _, part := range []string{"", "_bucket", "_sum", "_count"} {
			name := "a" + part + "{le=\"+Inf\"}"
			counts := strings.Contains(count[kind], " "+name+" ")
			if _, is := expo.Part(family("a", kind), "a"+part); !is {
				continue
			}
			came++
			for _, value := range []int64{0, 1, math.MaxInt64, -1, math.MinInt64} {
				for _, ahead := range []bool{false, true} {
					x := api.Sample{Name: name, Value: value, Time: 9, Counts: ahead}
					want := api.Sample{Name: name, Value: value, Time: 9, Counts: counts}
					if f := family("a", kind, x); counts && value < 0 {
						checkWrong(t, api.ErrRange, f)
					} else {
						checkSamples(t, []api.Family{f}, want)
					}
				}
			}
		}
	}
	if came != 12 {
		t.Errorf("%d parts of types", came)
	}
}

// P11.1: that time and value stay, whatever they are

func TestTimeAndValueStay(t *testing.T) {
	for _, time := range []int64{0, 1, -1, api.MaxTime, api.MaxTime + 1, math.MaxInt64, math.MinInt64} {
		for _, value := range []int64{0, 1, -1, math.MaxInt64, math.MinInt64} {
			x := api.Sample{Name: "g", Value: value, Time: time}
			checkSamples(t, []api.Family{family("g", api.TypeGauge, x)}, x)
		}
		all := []api.Sample{{Name: "h_bucket{le=\"+Inf\"}", Value: 4, Time: time, Counts: true}, {Name: "h_bucket{le=\"1\"}", Value: 3, Time: -time, Counts: true}, {Name: "h_count", Value: 4, Time: time / 2, Counts: true}}
		checkSamples(t, []api.Family{histogram(all...)}, all...)
	}
}

// P11.1: bounds

func TestBuckets(t *testing.T) {
	for _, l := range [][]api.Sample{
		{bucket("+Inf", 0)},
		{bucket("+Inf", 3)},
		{bucket("1", 3), bucket("+Inf", 3)},
		{bucket("1", 0), bucket("+Inf", 3)},
		{bucket("+Inf", 3), bucket("1", 2)},
		{bucket("10", 2), bucket("2", 1), bucket("+Inf", 2)},
		{bucket("-1", 2), bucket("-2", 1), bucket("0", 2), bucket("+Inf", 2)},
		{bucket("1e3", 2), bucket("25e-1", 1), bucket("+5", 1), bucket(".5", 0), bucket("+Inf", 2)},
		{bucket("9223372036854.775807", 2), bucket("-9223372036854.775808", 1), bucket("0", 1), bucket("+Inf", 2)},
		{bucket("0.000001", 2), bucket("0", 1), bucket("-0.000001", 0), bucket("+Inf", 2)},
		{bucket("0", math.MaxInt64), bucket("+Inf", math.MaxInt64)},
		{of("h_sum", -5), of("h_count", 9), of("h", -2)},
		{of("h_count{a=\"b\"}", 9), of("h_count", 3), of("h{le=\"1\"}", 2)},
	} {
		if e := checkReckoned(t, histogram(l...)); e != api.OK {
			t.Errorf("%+v: %v", l, e)
		}
		slices.Reverse(l)
		if e := checkReckoned(t, histogram(l...)); e != api.OK {
			t.Errorf("%+v: %v", l, e)
		}
	}
}

func TestNoBounds(t *testing.T) {
	for _, le := range []string{"", "x", "1_0", "e5", ".", " 1", "1 ", "NaN", "nan", "Inf", "inf", "+inf", "+INF", "-Inf", "Infinity", "+Infinity", "+Inf ", " +Inf", "++Inf", "+In", "1e-7", "1e13", "9223372036854.775808", "0x1", "1\x00"} {
		for _, rest := range [][]api.Sample{nil, {bucket("+Inf", 1)}, {bucket("+Inf", 1), bucket("1", 1)}, {of("h_count", 1)}} {
			checkWrong(t, api.ErrBucket, histogram(append(slices.Clone(rest), bucket(le, 1))...))
		}
	}
	for _, name := range []string{"h_bucket", "h_bucket{a=\"1\"}", "h_bucket{LE=\"1\"}", "h_bucket{lea=\"1\"}", "h_bucket{l=\"+Inf\",m=\"+Inf\"}"} {
		checkWrong(t, api.ErrBucket, histogram(of(name, 1)))
		checkWrong(t, api.ErrBucket, histogram(of(name, 1), bucket("+Inf", 1)))
	}
	// le is asked of buckets alone.
	checkSamples(t, []api.Family{family("s", api.TypeSummary, of("s{le=\"x\"}", 1), of("s_sum", 1), of("s_count{le=\"\"}", 1))}, counting("s_count{le=\"\"}", 1), of("s_sum", 1), of("s{le=\"x\"}", 1))
	checkSamples(t, []api.Family{family("h_bucket", api.TypeCounter, of("h_bucket", 1))}, counting("h_bucket", 1))
}

func TestBoundsAlike(t *testing.T) {
	for _, x := range [][2]string{{"1", "1.0"}, {"1", "+1"}, {"1000", "1e3"}, {"0", "-0"}, {"0", "0e99"}, {"0.5", ".5"}, {"-2", "-2.000000"}, {"0.000001", "1e-6"}, {"1", "1"}, {"01", "1"}} {
		for _, values := range [][2]int64{{1, 1}, {1, 2}, {2, 1}} {
			checkWrong(t, api.ErrBucket, histogram(bucket(x[0], values[0]), bucket(x[1], values[1]), bucket("+Inf", 2)))
			checkWrong(t, api.ErrBucket, histogram(bucket(x[1], values[0]), bucket("+Inf", 2), bucket(x[0], values[1]), bucket("-3", 0), bucket("4", 2)))
		}
		// In unlike sets they may be alike.
		l := []api.Sample{bucket("+Inf", 2), bucket(x[0], 1), of("h_bucket{a=\"\",le=\"+Inf\"}", 2), of("h_bucket{a=\"\",le=\""+x[1]+"\"}", 1)}
		if e := checkReckoned(t, histogram(l...)); e != api.OK {
			t.Errorf("%q in unlike sets: %v", x, e)
		}
	}
	checkWrong(t, api.ErrBucket, histogram(bucket("+Inf", 2), bucket("+Inf", 2)))
	checkWrong(t, api.ErrBucket, histogram(bucket("+Inf", 2), bucket("1", 2), bucket("+Inf", 3)))
}

// +Inf is another bound than the number 0, and than the greatest one.
func TestInfAlone(t *testing.T) {
	for _, le := range []string{"0", "9223372036854.775807", "-9223372036854.775808"} {
		checkSamples(t, []api.Family{histogram(bucket(le, 2), bucket("+Inf", 2))}, counting("h_bucket{le=\"+Inf\"}", 2), counting("h_bucket{le=\""+le+"\"}", 2))
		checkWrong(t, api.ErrBucket, histogram(bucket(le, 2)))
		checkWrong(t, api.ErrBucket, histogram(bucket(le, 3), bucket("+Inf", 2)))
		checkWrong(t, api.ErrBucket, histogram(bucket(le, 3), of("h_count", 3)))
	}
}

// P11.1: values by rising bounds

func TestValuesFall(t *testing.T) {
	bounds := []string{"-10", "-2", "0", "0.000001", "2", "10", "100", "+Inf"} // rising ones, but not as texts
	for i := range bounds {
		for _, up := range []int64{0, 1} {
			var l []api.Sample
			for j, le := range bounds {
				value := 5 + up*int64(j)
				if j < i {
					value -= 3 // so it rises here
				}
				l = append(l, bucket(le, value))
			}
			checkFall(t, l, api.OK)
			for j := range i {
				l[j].Value = 20
				checkFall(t, l, api.ErrBucket)
				l[j].Value = 2 + up*int64(j)
			}
		}
	}
}

// checkFall holds Samples to what a histogram's samples come to, in some orders.
func checkFall(t *testing.T, l []api.Sample, want api.Errno) {
	t.Helper()
	for i := range l {
		turned := slices.Concat(l[i:], l[:i])
		for range 2 {
			if e := checkReckoned(t, histogram(turned...)); e != want {
				t.Errorf("%+v: %v, want %v", turned, e, want)
			}
			slices.Reverse(turned)
		}
	}
}

func TestNoInf(t *testing.T) {
	checkWrong(t, api.ErrBucket, histogram(bucket("1", 1)))
	checkWrong(t, api.ErrBucket, histogram(bucket("1", 1), bucket("2", 1), of("h_count", 1)))
	checkWrong(t, api.ErrBucket, histogram(of("h_bucket{a=\"b\",le=\"1\"}", 1), bucket("+Inf", 1)))
	checkWrong(t, api.ErrBucket, histogram(bucket("1", 1), of("h_bucket{a=\"b\",le=\"+Inf\"}", 1)))
	checkWrong(t, api.ErrBucket, histogram(bucket("1", 1), of("h_bucket{a=\"+Inf\",le=\"1\"}", 1)))
}

// P11.1: sets

func TestSets(t *testing.T) {
	sets := []string{"", "a=\"\"", "a=\"b\"", "a=\"c\"", "b=\"b\"", "lf=\"b\"", "a=\"b\",b=\"\"", "a=\"b,c\"", "a=\"\\\",b=\\\"\"", "a=\"b\",m=\"n\",z=\"\""}
	var whole []api.Sample
	with := func(labels, le string, value int64) api.Sample {
		var l []string
		for _, s := range []string{labels, "le=\"" + le + "\""} {
			if s != "" {
				l = append(l, s)
			}
		}
		if strings.HasPrefix(labels, "lf=") {
			slices.Reverse(l)
		}
		name := "h_bucket{" + strings.Join(l, ",") + "}"
		if before, behind, is := strings.Cut(labels, ",m="); is {
			name = "h_bucket{" + before + ",le=\"" + le + "\",m=" + behind + "}"
		}
		return of(name, value)
	}
	for i, labels := range sets {
		whole = append(whole, with(labels, "2", int64(30-3*i)), with(labels, "+Inf", int64(31-3*i)))
		count := of("h_count", int64(31-3*i))
		if labels != "" {
			count.Name += "{" + labels + "}"
		}
		whole = append(whole, count)
	}
	if slices.Reverse(whole); checkReckoned(t, histogram(whole...)) != api.OK {
		t.Error("the sets do not hold together")
	}
	for i := range whole {
		x := whole[i]
		for _, more := range []int64{-2, 2} {
			if whole[i].Value += more; !strings.Contains(x.Name, "\"2\"") || more > 0 {
				checkWrong(t, api.ErrBucket, histogram(whole...))
			}
			whole[i] = x
		}
		less := slices.Delete(slices.Clone(whole), i, i+1)
		if e := checkReckoned(t, histogram(less...)); (e == api.OK) == strings.Contains(x.Name, "+Inf") {
			t.Errorf("without %s: %v", x.Name, e)
		}
	}
}

// Labels in another order are no series' name.
func TestLabelsInAnotherOrder(t *testing.T) {
	checkWrong(t, api.ErrLabel, histogram(of("h_bucket{le=\"+Inf\",a=\"b\"}", 1)))
	checkWrong(t, api.ErrLabel, histogram(of("h_bucket{a=\"b\",le=\"+Inf\"}", 1), of("h_bucket{le=\"1\",a=\"b\"}", 1)))
	l, e := expo.Parse([]byte("# TYPE h histogram\nh_bucket{le=\"+Inf\",a=\"b\"} 1\nh_bucket{a=\"b\",le=\"1\"} 2\n"), 7)
	if e != api.OK {
		t.Fatal(e)
	}
	checkWrong(t, api.ErrBucket, l...)
}

// P11.1: _count and _sum

func TestCountOfSets(t *testing.T) {
	l := []api.Sample{of("h_bucket{a=\"b\",le=\"+Inf\"}", 5), of("h_bucket{a=\"b\",le=\"1\"}", 4), bucket("+Inf", 7)}
	for _, x := range []struct {
		name string
		only int64 // the one value that it may have (-1: any one)
	}{
		{"h_count", 7}, {"h_count{a=\"b\"}", 5}, {"h_count{a=\"\"}", -1}, {"h_count{a=\"c\"}", -1}, {"h_count{b=\"b\"}", -1}, {"h_count{a=\"b\",c=\"\"}", -1},
		{"h_count{le=\"+Inf\"}", -1}, {"h_count{a=\"b\",le=\"+Inf\"}", -1}, {"h_count{a=\"b\",le=\"1\"}", -1}, {"h_sum", -1}, {"h_sum{a=\"b\"}", -1}, {"h{a=\"b\"}", -1}, {"h", -1},
	} {
		for _, value := range []int64{0, 4, 5, 6, 7, 8, math.MaxInt64} {
			for at := range len(l) + 1 {
				f := histogram(slices.Insert(slices.Clone(l), at, of(x.name, value))...)
				want := api.OK
				if x.only >= 0 && x.only != value {
					want = api.ErrBucket
				}
				if e := checkReckoned(t, f); e != want {
					t.Errorf("%s %d: %v, want %v", x.name, value, e, want)
				}
			}
		}
	}
	// Each sample of just these labels is held to it, be there two.
	checkWrong(t, api.ErrBucket, histogram(bucket("+Inf", 7), of("h_count", 7), of("h_count", 8)))
	checkWrong(t, api.ErrBucket, histogram(bucket("+Inf", 7), of("h_count", 8), of("h_count", 7)))
	checkWrong(t, api.ErrTwice, histogram(bucket("+Inf", 7), of("h_count", 7), of("h_count", 7)))
	// That of another family is none of its.
	checkSamples(t, []api.Family{histogram(bucket("+Inf", 7)), family("h_count", api.TypeGauge, of("h_count", 8))}, counting("h_bucket{le=\"+Inf\"}", 7), of("h_count", 8))
}

// Sets hold together at the limits of names and labels, too.
func TestLongNames(t *testing.T) {
	metric := strings.Repeat("m", 193)
	labels := ""
	for i := range 15 {
		labels += string(rune('a'+i)) + "=\"" + strings.Repeat("\\\"", 1024) + "\","
	}
	labels = strings.Replace(labels, ",l=", ",le=\"+Inf\",l=", 1)
	name := metric + "_bucket{" + labels[:len(labels)-1] + "}"
	count := strings.Replace(strings.Replace(name, "_bucket", "_count", 1), "le=\"+Inf\",", "", 1)
	f := family(metric, api.TypeHistogram, of(name, 3), of(count, 3))
	if e := checkReckoned(t, f); e != api.ErrLabel {
		t.Errorf("le ahead of l: %v", e)
	}
	rising := strings.Replace(strings.Replace(name, "le=\"+Inf\",", "", 1), ",m=", ",le=\"+Inf\",m=", 1)
	f = family(metric, api.TypeHistogram, of(rising, 3), of(count, 3))
	checkSamples(t, []api.Family{f}, counting(rising, 3), counting(count, 3))
	f.Samples[1].Value = 2
	checkWrong(t, api.ErrBucket, f)
}

// P11.1: a series that has two samples

func TestTwice(t *testing.T) {
	a, b := family("a", api.TypeGauge, of("a", 1), of("a{b=\"c\"}", 2)), family("b", api.TypeGauge, of("b", 1))
	again := family("a", api.TypeCounter, api.Sample{Name: "a{b=\"c\"}", Value: 3, Time: 99})
	checkWrong(t, api.ErrTwice, a, b, again)
	checkWrong(t, api.ErrTwice, again, a, b)
	checkWrong(t, api.ErrTwice, b, again, a)
	checkWrong(t, api.ErrTwice, a, a)
	checkWrong(t, api.ErrTwice, family("a", api.TypeGauge, of("a", 1), of("a", 1)))
	checkWrong(t, api.ErrTwice, family("a", api.TypeGauge, of("a", 1), of("a{b=\"c\"}", 2), of("a{a=\"\"}", 2), of("a", 3)))
	checkWrong(t, api.ErrTwice, family("a", api.TypeSummary, of("a_count", 1)), family("a_count", api.TypeUntyped, of("a_count", 2)))
	checkWrong(t, api.ErrTwice, histogram(bucket("+Inf", 1)), family("h_bucket", api.TypeCounter, bucket("+Inf", 1)))
	checkWrong(t, api.ErrBucket, histogram(bucket("+Inf", 1), bucket("+Inf", 1)))
	checkSamples(t, []api.Family{a, b, family("a", api.TypeCounter, of("a{b=\"d\"}", 3))}, of("a", 1), of("a{b=\"c\"}", 2), counting("a{b=\"d\"}", 3), of("b", 1))
}

// A series' name that is not in its one form is ErrLabel, not a second sample.
func TestNamesAlike(t *testing.T) {
	for _, name := range []string{"a{}", "a{b=\"\",a=\"\"}", "a{a=\"\",b=\"\",}", "a{a=\"\", b=\"\"}", "a {a=\"\",b=\"\"}", "A{a=\"\",b=\"\"}"} {
		checkWrong(t, api.ErrLabel, family("a", api.TypeGauge, of("a", 1), of("a{a=\"\",b=\"\"}", 1), of(name, 1)))
	}
	checkSamples(t, []api.Family{family("a", api.TypeGauge, of("a{b=\"\"}", 1), of("a", 2), of("a{b=\" \"}", 3), of("a{b=\"\\n\"}", 4), of("a{b=\"n\"}", 5))}, of("a", 2), of("a{b=\" \"}", 3), of("a{b=\"\"}", 1), of("a{b=\"\\n\"}", 4), of("a{b=\"n\"}", 5))
}

// P11.1: which error is told

func TestOrderOfErrors(t *testing.T) {
	name, sign, edge := of("x", 1), of("h_count", -1), bucket("x", 1)
	for _, x := range []struct {
		want api.Errno
		l    []api.Sample
	}{
		{api.ErrLabel, []api.Sample{sign, edge, name}},
		{api.ErrLabel, []api.Sample{name, edge, sign}},
		{api.ErrLabel, []api.Sample{edge, name}},
		{api.ErrLabel, []api.Sample{sign, name}},
		{api.ErrLabel, []api.Sample{sign, edge, of("h_sum{", 1)}},
		{api.ErrRange, []api.Sample{edge, sign}},
		{api.ErrRange, []api.Sample{sign, edge}},
		{api.ErrRange, []api.Sample{bucket("+Inf", 1), sign}},
		{api.ErrRange, []api.Sample{bucket("x", -1)}},
		{api.ErrRange, []api.Sample{of("h_bucket", -1)}},
		{api.ErrRange, []api.Sample{of("h_sum", 1), of("h_sum", 1), sign}},
		{api.ErrBucket, []api.Sample{of("h_sum", 1), of("h_sum", 1), edge}},
	} {
		checkWrong(t, x.want, histogram(x.l...))
		good := family("g", api.TypeGauge, of("g", 1))
		checkWrong(t, x.want, good, histogram(x.l...), good)
		for _, other := range []api.Sample{name, sign, edge} { // the family that comes first tells
			checkWrong(t, x.want, histogram(x.l...), histogram(other))
		}
		for e, other := range map[api.Errno]api.Sample{api.ErrLabel: name, api.ErrRange: sign, api.ErrBucket: edge} {
			checkWrong(t, e, good, histogram(other), histogram(x.l...))
		}
		twice := family("g", api.TypeGauge, of("g", 1), of("g", 1))
		checkWrong(t, x.want, twice, histogram(x.l...)) // ErrTwice is told behind all families
		checkWrong(t, x.want, histogram(x.l...), twice)
	}
}

// P11.1: the order of samples

func TestOrderOfSamples(t *testing.T) {
	names := []string{"A", "Z{a=\"\"}", "_", "a", "a0", "a:", "a_", "a_count", "aa", "a{a=\"\",b=\"\"}", "a{a=\"\"}", "a{a=\"b\"}", "a{aa=\"\"}", "a{b=\"\xff\"}", "b", "z{a=\"\\\\\"}"}
	var families []api.Family
	var want []api.Sample
	for i, name := range names {
		metric, _, _ := strings.Cut(name, "{")
		x := of(name, int64(i))
		want = append(want, x)
		at := slices.IndexFunc(families, func(f api.Family) bool { return f.Metric == metric })
		if at < 0 {
			at = len(families)
			families = append(families, family(metric, api.TypeUntyped))
		}
		families[at].Samples = append(families[at].Samples, x)
	}
	next := sequence()
	for range 500 {
		for i := range families {
			j := next(i + 1)
			families[i], families[j] = families[j], families[i]
			l := families[i].Samples
			if len(l) > 0 {
				k, m := next(len(l)), next(len(l))
				l[k], l[m] = l[m], l[k]
			}
		}
		checkSamples(t, families, want...)
		if t.Failed() {
			return
		}
	}
}

// P11.3: it ends, however much there is.
func TestMany(t *testing.T) {
	const many = 50000
	h, c := histogram(), family("c", api.TypeCounter)
	for i := range many {
		k := i * 7919 % many
		h.Samples = append(h.Samples, bucket(strconv.Itoa(k), int64(k)))
		label := "a=\"" + strconv.Itoa(i) + "\""
		h.Samples = append(h.Samples, of("h_bucket{"+label+",le=\"+Inf\"}", int64(i)), of("h_count{"+label+"}", int64(i)))
		c.Samples = append(c.Samples, of("c{"+label+"}", int64(i)))
	}
	checkWrong(t, api.ErrBucket, h, c)
	h.Samples = append(h.Samples, bucket("+Inf", many))
	got, e := check.Samples([]api.Family{c, h})
	rise := slices.IsSortedFunc(got, func(a, b api.Sample) int { return strings.Compare(a.Name, b.Name) })
	if e != api.OK || len(got) != 4*many+1 || !rise {
		t.Errorf("%d samples, %v", len(got), e)
	}
	h.Samples = append(h.Samples, bucket("1e3", 1000))
	checkWrong(t, api.ErrBucket, c, h)
	h.Samples[len(h.Samples)-1] = of("h_sum", 1)
	c.Samples = append(c.Samples, c.Samples[0])
	checkWrong(t, api.ErrTwice, c, h)
}

// What is answered shares no memory with what was handed in.
func TestNewMemory(t *testing.T) {
	l := []api.Family{histogram(of("h_count", 2), bucket("+Inf", 2), of("h_sum", 4))}
	one, _ := check.Samples(l)
	two, _ := check.Samples(l)
	for i, x := range one {
		for _, y := range l[0].Samples {
			if x.Name == y.Name && unsafe.StringData(x.Name) == unsafe.StringData(y.Name) {
				t.Errorf("the name %s is what was handed in", x.Name)
			}
		}
		one[i] = api.Sample{}
	}
	checkSamples(t, l, two...)
	for i := range l[0].Samples {
		l[0].Samples[i] = api.Sample{}
	}
	if want := []api.Sample{counting("h_bucket{le=\"+Inf\"}", 2), counting("h_count", 2), of("h_sum", 4)}; !slices.Equal(two, want) {
		t.Errorf("%+v", two)
	}
}
