package check_test

import (
	"math"
	"strings"
	"testing"

	"odometer/api"
	"odometer/check"
)

// P11.2
func TestCounts(t *testing.T) {
	count := map[api.FamilyType]string{api.TypeCounter: "  ", api.TypeHistogram: " _bucket _count ", api.TypeSummary: " _count "}
	for _, kind := range types() {
		for _, metric := range []string{"a", "a:b_9", "_", "a_count", "a_bucket", strings.Repeat("n", 193)} {
			f := family(metric, kind, of("no series", -1))
			for _, part := range []string{"", "_bucket", "_sum", "_count", "_total", "_counts", "_coun", "_Count", "count", "_count_count", "_bucket_count"} {
				for _, labels := range []string{"", "{le=\"1\"}", "{le=\"x\"}", "{le=\"+Inf\"}", "{a=\"b\",c=\"d\"}"} {
					name := metric + part + labels
					want := strings.Contains(count[kind], " "+part+" ")
					if is := check.Counts(f, name); is != want {
						t.Errorf("Counts(%q of type %d, %q) = %v", metric, kind, name, is)
					}
					for _, other := range []string{"", "{}", "x" + name, name[1:], name + " ", " " + name, name + "{}", name + "\n", name + "{", name + "\x00", strings.ToUpper(metric) + "x" + part + labels} {
						if check.Counts(f, other) {
							t.Errorf("Counts(%q of type %d, %q)", metric, kind, other)
						}
					}
				}
			}
		}
	}
}

// P11.2: a family without a metric's name, and what is no series' name because of its labels
func TestCountsOfOthers(t *testing.T) {
	for kind, names := range map[api.FamilyType]map[string]bool{
		api.TypeHistogram: {"_bucket": true, "_count": true, "_sum": false, "": false, "{}": false, "a": false},
		api.TypeSummary:   {"_bucket": false, "_count": true, "_sum": false, "": false},
		api.TypeCounter:   {"": false, "{}": false, "{a=\"b\"}": false, "_count": false, "a": false},
	} {
		for name, want := range names {
			if is := check.Counts(family("", kind), name); is != want {
				t.Errorf("Counts(of type %d without a name, %q) = %v", kind, name, is)
			}
		}
	}
	for _, metric := range []string{"9", "a b", "a{}", "\xff", "", strings.Repeat("n", 201)} {
		if check.Counts(family(metric, api.TypeCounter), metric) {
			t.Errorf("Counts(%.20q)", metric)
		}
	}
	for _, labels := range []string{"{}", "{a}", "{a=\"b\"", "{b=\"\",a=\"\"}", "{a=\"\",a=\"\"}", "{a=\"b\",}", "{:=\"\"}", "{a=\"\\x\"}", "{a=\"\n\"}", "{a=\"b\"}}", "{a=\"" + strings.Repeat("v", 1025) + "\"}"} {
		for _, kind := range types() {
			for _, part := range []string{"", "_bucket", "_count"} {
				if check.Counts(family("c", kind), "c"+part+labels) {
					t.Errorf("Counts(c of type %d, %.50q)", kind, "c"+part+labels)
				}
			}
		}
	}
}

// P11.2: what Counts tells is what Samples does.
func TestCountsAsSamples(t *testing.T) {
	for _, kind := range types() {
		for _, part := range []string{"", "_bucket", "_sum", "_count", "_total"} {
			name := "h" + part + "{le=\"+Inf\"}"
			f := family("h", kind, of(name, 0))
			l, e := check.Samples([]api.Family{f})
			if is := check.Counts(f, name); e == api.OK && is != l[0].Counts || e != api.OK && is {
				t.Errorf("Counts(h of type %d, %s) = %v, but %+v, %v", kind, name, is, l, e)
			}
		}
	}
}

// P11.2
func TestBound(t *testing.T) {
	for le, want := range map[string]int64{
		"0": 0, "-0": 0, "+0": 0, "0e99": 0, "1": 1000000, "+1": 1000000, "1.0": 1000000, "001": 1000000, "1.": 1000000, ".5": 500000, "-.5": -500000, "2.5": 2500000, "25e-1": 2500000, "1E3": 1000000000, "-0.000001": -1, "25e-6": 25,
		"9223372036854.775807": math.MaxInt64, "-9223372036854.775808": math.MinInt64,
	} {
		if n, inf, e := check.Bound(le); n != want || inf || e != api.OK {
			t.Errorf("Bound(%q) = %d, %v, %v", le, n, inf, e)
		}
	}
	if n, inf, e := check.Bound("+Inf"); n != 0 || !inf || e != api.OK {
		t.Errorf("Bound(+Inf) = %d, %v, %v", n, inf, e)
	}
	for _, le := range []string{
		"", " ", "x", ".", "+", "-", "e5", "1e", "1_0", "1 ", " 1", "1\n", "1,0", "0x1", "--1", "NaN", "nan", "+NaN", "Inf", "inf", "-Inf", "+inf", "+INF", "+iNF", "-inf", "Infinity", "+Infinity", "+infinity", "-Infinity", "+Inf ", " +Inf", "++Inf", "+Inf\x00", "+Inf+Inf", "+In", "\"+Inf\"", "\xff",
		"1e-7", "0.0000001", "9223372036854.775808", "-9223372036854.775809", "1e13", "1e99999999999999999999", strings.Repeat("9", 1000), strings.Repeat("x", 1<<20),
	} {
		if n, inf, e := check.Bound(le); n != 0 || inf || e != api.ErrBucket {
			t.Errorf("Bound(%.50q) = %d, %v, %v", le, n, inf, e)
		}
	}
}
