package expo_test

import (
	"strings"
	"testing"

	"odometer/api"
	"odometer/expo"
)

// types are the types, and two that are none.
func types() []api.FamilyType {
	return []api.FamilyType{api.TypeUntyped, api.TypeCounter, api.TypeGauge, api.TypeHistogram, api.TypeSummary, -1, api.TypeSummary + 1}
}

// P10.2
func TestTypeOf(t *testing.T) {
	for word, want := range map[string]api.FamilyType{"untyped": 0, "counter": 1, "gauge": 2, "histogram": 3, "summary": 4} {
		if x, is := expo.TypeOf(word); x != want || !is {
			t.Errorf("TypeOf(%q) = %v, %v", word, x, is)
		}
		for _, s := range []string{strings.ToUpper(word), strings.ToUpper(word[:1]) + word[1:], word + "s", word[1:], word[:len(word)-1], " " + word, word + " ", word + "\n", word + "\x00", word + word} {
			if x, is := expo.TypeOf(s); x != 0 || is {
				t.Errorf("TypeOf(%q) = %v, %v", s, x, is)
			}
		}
	}
	for _, s := range []string{"", "info", "unknown", "stateset", "gaugehistogram", "type", "a", "0", "1", "\x00", "\xff", strings.Repeat("a", 1<<20)} {
		if x, is := expo.TypeOf(s); x != 0 || is {
			t.Errorf("TypeOf(%.50q) = %v, %v", s, x, is)
		}
	}
}

// P10.2
func TestPart(t *testing.T) {
	parts := map[api.FamilyType][]string{api.TypeHistogram: {"_bucket", "_sum", "_count"}, api.TypeSummary: {"_sum", "_count"}}
	for _, metric := range []string{"a", "a:b_9", "_", "_sum", "a_count", "a_bucket", strings.Repeat("n", 200)} {
		for _, kind := range types() {
			f := family(metric, kind, "help", of(metric, 1))
			is := map[string]bool{metric: true}
			for _, part := range parts[kind] {
				is[metric+part] = true
			}
			for _, behind := range []string{"", "_bucket", "_sum", "_count", "_total", "_buckets", "_bucke", "_", "_Sum", "sum", "bucket", "count", "_count_sum", "_sum_sum", "__sum", "_sum_", "_count ", "\x00", "{}", "b"} {
				for _, s := range []string{metric + behind, "x" + metric + behind, metric[1:] + behind, behind, strings.ToUpper(metric) + behind} {
					want := ""
					if is[s] {
						want = s[len(metric):]
					}
					if part, belongs := expo.Part(f, s); part != want || belongs != is[s] {
						t.Errorf("Part(%q of type %d, %q) = %q, %v", metric, kind, s, part, belongs)
					}
				}
			}
		}
	}
}

// P10.2: Part looks at the metric and at the type alone.
func TestPartOfOtherFamilies(t *testing.T) {
	for _, f := range []api.Family{bare("a"), family("a", api.TypeUntyped, "a_sum", of("a_sum", 1), of("a_count", 1))} {
		for metric, want := range map[string]bool{"a": true, "a_sum": false, "a_count": false, "": false} {
			if part, is := expo.Part(f, metric); part != "" || is != want {
				t.Errorf("Part(%+v, %q) = %q, %v", f, metric, part, is)
			}
		}
	}
}

// P10.2: what Part tells is what Parse does.
func TestPartAsParse(t *testing.T) {
	for _, word := range []string{"untyped", "counter", "gauge", "histogram", "summary"} {
		for _, behind := range []string{"", "_bucket", "_sum", "_count", "_total", "_count_sum", "b"} {
			kind, _ := expo.TypeOf(word)
			part, is := expo.Part(family("a", kind, ""), "a"+behind)
			text := lines("# TYPE a "+word, "a"+behind+" 1")
			switch {
			case is && part != behind:
				t.Errorf("Part(a of type %s, a%s) = %q", word, behind, part)
			case is && word == "histogram" && behind == "":
				checkWrong(t, text, api.ErrType)
			case is:
				check(t, text, family("a", kind, "", of("a"+behind, 1)))
			default:
				check(t, text, family("a", kind, ""), bare("a"+behind, of("a"+behind, 1)))
			}
		}
	}
}
