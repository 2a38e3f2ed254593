package expo_test

import (
	"fmt"
	"math"
	"slices"
	"strings"
	"testing"

	"odometer/api"
	"odometer/expo"
)

// nothings are lines that belong to no family.
func nothings() []string {
	return []string{"", " ", "\t \t", "#", "# words", "  # HELPFUL a", "#TYPES a gauge", "# # TYPE a gauge"}
}

// words are the words of types, in their order.
func words() []string { return []string{"untyped", "counter", "gauge", "histogram", "summary"} }

// endings are what histograms' metrics have behind their name.
func endings() []string { return []string{"_bucket", "_sum", "_count"} }

// P10.1: no family

func TestNothing(t *testing.T) {
	for _, text := range [][]byte{nil, {}} {
		if l, e := expo.Parse(text, 50); e != api.OK || len(l) > 0 {
			t.Errorf("Parse(%q) = %+v, %v", text, l, e)
		}
	}
	for _, s := range nothings() {
		check(t, s+"\n")
		check(t, s+"\n\n"+s+"\n")
		for _, behind := range nothings() {
			check(t, lines(s, behind))
		}
	}
	check(t, lines(nothings()...))
	check(t, strings.Repeat("\n", 1<<20))
}

// P10.1: a last line that is not ended

func TestLastLines(t *testing.T) {
	whole := append(nothings()[1:], "# HELP c", "# HELP c text", "# HELP c text ", "# TYPE c gauge", "c 1", "c 1 7", "c{} 1", `c{d="e"} 1 `)
	for _, s := range whole {
		for _, ahead := range []string{"", "\n", "a 1\n", "# words\n", "# TYPE a histogram\n"} {
			checkWrong(t, ahead+s, api.ErrLine)
			if _, e := expo.Parse([]byte(ahead+s+"\n"), 50); e != api.OK {
				t.Errorf("Parse(%q): %v", ahead+s+"\n", e)
			}
		}
	}
	for s, e := range map[string]api.Errno{"c": api.ErrLine, "# HELP": api.ErrLine, "# TYPE c x": api.ErrLine, `c{1=""} 1`: api.ErrLabel, "c x": api.ErrNumber, "c NaN": api.ErrRange, "c 1 x": api.ErrNumber, "c 1 -1": api.ErrRange} {
		for _, ahead := range []string{"", "\n", "a 1\n", "c 1\na 1\n"} {
			checkWrong(t, ahead+s, e)
			checkWrong(t, ahead+s+"\n", e)
		}
	}
}

// P10.1: where a family begins, and what stands between its lines

func TestBeginnings(t *testing.T) {
	help, kind, one, two := "# HELP a The text.", "# TYPE a gauge", "a 1", `a{b="c"} 2`
	for _, x := range []struct {
		lines []string
		want  api.Family
	}{
		{[]string{help}, family("a", 0, "The text.")},
		{[]string{kind}, family("a", api.TypeGauge, "")},
		{[]string{one}, bare("a", of("a", 1))},
		{[]string{help, kind}, family("a", api.TypeGauge, "The text.")},
		{[]string{kind, help}, family("a", api.TypeGauge, "The text.")},
		{[]string{help, one, two}, family("a", 0, "The text.", of("a", 1), of(`a{b="c"}`, 2))},
		{[]string{kind, two, one}, family("a", api.TypeGauge, "", of(`a{b="c"}`, 2), of("a", 1))},
		{[]string{one, two}, bare("a", of("a", 1), of(`a{b="c"}`, 2))},
		{[]string{help, kind, two}, family("a", api.TypeGauge, "The text.", of(`a{b="c"}`, 2))},
		{[]string{kind, help, one, two}, family("a", api.TypeGauge, "The text.", of("a", 1), of(`a{b="c"}`, 2))},
	} {
		check(t, lines(x.lines...), x.want)
		check(t, "b 3\n"+lines(x.lines...)+"c 4\n", bare("b", of("b", 3)), x.want, bare("c", of("c", 4)))
		for _, s := range nothings() {
			check(t, s+"\n"+strings.Join(x.lines, "\n"+s+"\n")+"\n"+s+"\n", x.want)
		}
	}
}

func TestOrderOfFamilies(t *testing.T) {
	check(t, lines("z 1", "# HELP b x", "a 1", "# TYPE _ counter", "y 1", "# words", "y{z=\"\"} 2", "B 1"),
		bare("z", of("z", 1)), family("b", 0, "x"), bare("a", of("a", 1)), family("_", api.TypeCounter, ""), bare("y", of("y", 1), of(`y{z=""}`, 2)), bare("B", of("B", 1)))
	var l []string
	var want []api.Family
	for i := range 1000 {
		metric := fmt.Sprintf("m%d", i*7919%1000)
		switch i % 3 {
		case 0:
			l, want = append(l, metric+" 1"), append(want, bare(metric, of(metric, 1)))
		case 1:
			l, want = append(l, "# TYPE "+metric+" summary"), append(want, family(metric, api.TypeSummary, ""))
		case 2:
			l, want = append(l, "# HELP "+metric+" "+metric), append(want, family(metric, 0, metric))
		}
	}
	check(t, lines(l...), want...)
	for i := range 999 { // each but the last one has ended
		checkWrong(t, lines(l...)+l[i]+"\n", api.ErrOrder)
	}
}

func TestSamplesInOrder(t *testing.T) {
	told := lines(`a_sum{b="2"} 1`, `a_sum{b="1"} 2`, `a_sum 3`, `a_sum{b="3",a="4"} 4`)
	l := []api.Sample{of(`a_sum{b="2"}`, 1), of(`a_sum{b="1"}`, 2), of("a_sum", 3), of(`a_sum{a="4",b="3"}`, 4)}
	check(t, told, bare("a_sum", l...))
	check(t, "# TYPE a counter\n"+told, family("a", api.TypeCounter, ""), bare("a_sum", l...))
	check(t, "# TYPE a summary\n"+told, family("a", api.TypeSummary, "", l...))
	check(t, "# TYPE a histogram\n"+told, family("a", api.TypeHistogram, "", l...))
}

// P10.1: helps and types

func TestHelps(t *testing.T) {
	for told, text := range map[string]string{"": "", " ": "", "\t \t": "", " x": "x", " x ": "x ", "  Some words. ": "Some words. ", ` \n\\`: "\n\\", " # HELP a b": "# HELP a b", " \xff\x00\r": "\xff\x00\r"} {
		check(t, lines("# HELP a"+told), family("a", 0, text))
		check(t, lines("# HELP a"+told, "a 1"), family("a", 0, text, of("a", 1)))
		for more := range map[string]int{"": 0, " ": 0, " x": 0, told: 0} {
			checkWrong(t, lines("# HELP a"+told, "# HELP a"+more), api.ErrTwice)
			checkWrong(t, lines("# HELP a"+told, "", "# words", "# TYPE a gauge", "# HELP a"+more), api.ErrTwice)
			checkWrong(t, lines("# TYPE a gauge", "# HELP a"+told, "# HELP a"+more, "a 1"), api.ErrTwice)
			check(t, lines("# HELP a"+told, "# HELP b"+told), family("a", 0, text), family("b", 0, text))
		}
	}
}

func TestTypes(t *testing.T) {
	for i, word := range words() {
		kind := api.FamilyType(i)
		check(t, lines("# TYPE a "+word), family("a", kind, ""))
		check(t, lines("# TYPE a "+word, "# TYPE b "+word), family("a", kind, ""), family("b", kind, ""))
		check(t, lines("# TYPE a "+word, "# TYPE b gauge", "# TYPE c "+word), family("a", kind, ""), family("b", api.TypeGauge, ""), family("c", kind, ""))
		for _, more := range words() {
			checkWrong(t, lines("# TYPE a "+word, "# TYPE a "+more), api.ErrTwice)
			checkWrong(t, lines("# TYPE a "+word, "# HELP a x", "", "# TYPE a "+more), api.ErrTwice)
			checkWrong(t, lines("# HELP a x", "# TYPE a "+word, "# words", "# TYPE a "+more), api.ErrTwice)
		}
	}
}

func TestHelpsAndTypesBehindSamples(t *testing.T) {
	remarks := []string{"# HELP a", "# HELP a x"}
	for _, word := range words() {
		remarks = append(remarks, "# TYPE a "+word)
	}
	for _, ahead := range [][]string{
		{"a 1"}, {"# HELP a x", "a 1"}, {"# TYPE a gauge", "a 1"}, {"# HELP a", "# TYPE a counter", "a 1"}, {"# TYPE a histogram", "a_sum 1"}, {"# HELP a x", "# TYPE a summary", "a_count 1"}, {"# TYPE a summary", "a 1", "a_sum 1"},
	} {
		for _, s := range remarks { // ErrOrder is told ahead of ErrTwice
			checkWrong(t, lines(append(ahead, s)...), api.ErrOrder)
			checkWrong(t, lines(append(ahead, "", "# words", s)...), api.ErrOrder)
		}
	}
}

// P10.1: families that have ended

func TestEndedFamilies(t *testing.T) {
	own := []string{"# HELP a x", "# TYPE a counter", "a 1", `a{b="c"} 1`, "# TYPE a untyped", "# HELP a"}
	other := []string{"# HELP b x", "# TYPE b histogram", "b 1", "a_sum 1", "# TYPE a_count summary", "a:b 1", "A 1", "aa 1"}
	for _, first := range own {
		for _, between := range other {
			for _, again := range own {
				checkWrong(t, lines(first, between, again), api.ErrOrder)
				checkWrong(t, lines(first, "", between, "# words", again), api.ErrOrder)
				checkWrong(t, lines("y 1", first, between, "z 1", again, "a x"), api.ErrOrder)
			}
		}
		for _, between := range nothings() { // it has not ended
			if _, e := expo.Parse([]byte(lines(first, between, `a{d="e"} 1`)), 50); e != api.OK {
				t.Errorf("%q, %q: %v", first, between, e)
			}
		}
	}
	for _, word := range []string{"histogram", "summary"} {
		for _, again := range append(own, "# HELP a_sum x", "# TYPE a_sum gauge") {
			want := api.ErrOrder
			if strings.Contains(again, "_sum") { // no family's yet
				want = api.OK
			}
			if _, e := expo.Parse([]byte(lines("# TYPE a "+word, "a_sum 1", "b 1", again)), 50); e != want {
				t.Errorf("%s, %q: %v", word, again, e)
			}
		}
	}
}

// P10.1: histograms

func TestHistograms(t *testing.T) {
	histogram := api.TypeHistogram
	check(t, lines("# TYPE a histogram", `a_bucket{le="1"} 2`, `a_bucket{le="+Inf"} 3`, "a_sum 9", "a_count 3"),
		family("a", histogram, "", of(`a_bucket{le="1"}`, 2), of(`a_bucket{le="+Inf"}`, 3), of("a_sum", 9), of("a_count", 3)))
	check(t, lines("# TYPE a histogram", `a_bucket{le="+Inf"} 2`, "a_count 2", "b 1"), family("a", histogram, "", of(`a_bucket{le="+Inf"}`, 2), of("a_count", 2)), bare("b", of("b", 1)))
	for _, ending := range endings() {
		metric := "a" + ending
		begun := family("a", histogram, "", of(metric, 1))
		check(t, lines("# TYPE a histogram", metric+" 1"), begun)
		check(t, lines("# TYPE a histogram", "# HELP a x", "", "# words", metric+" 1"), family("a", histogram, "x", of(metric, 1)))
		check(t, lines("# TYPE a histogram", metric+" 1", `a_sum{b="c"} 2`), family("a", histogram, "", of(metric, 1), of(`a_sum{b="c"}`, 2)))
		check(t, lines(metric+" 1"), bare(metric, of(metric, 1)))                                                                                 // there is no current family
		check(t, lines(metric+" 1", "# TYPE a histogram"), bare(metric, of(metric, 1)), family("a", histogram, ""))                               // nor is it one yet
		check(t, lines("# TYPE a histogram", "b 1", metric+" 2"), family("a", histogram, ""), bare("b", of("b", 1)), bare(metric, of(metric, 2))) // it is another one
		check(t, lines("# TYPE a histogram", "# HELP b x", metric+" 2"), family("a", histogram, ""), family("b", 0, "x"), bare(metric, of(metric, 2)))
		check(t, lines("# TYPE a histogram", "# TYPE b histogram", metric+" 2", "b"+ending+" 3"), family("a", histogram, ""), family("b", histogram, ""), bare(metric, of(metric, 2)), bare("b"+ending, of("b"+ending, 3)))
		check(t, lines("# HELP a x", metric+" 2"), family("a", 0, "x"), bare(metric, of(metric, 2))) // it has no type
		checkWrong(t, lines("# HELP a x", metric+" 2", "# TYPE a histogram"), api.ErrOrder)
		checkWrong(t, lines("# TYPE a histogram", metric+" 1", "b 1", "a 1"), api.ErrOrder)
		for _, own := range []string{"a 1", "a{} 1", `a{le="1"} 2 7`} {
			checkWrong(t, lines("# TYPE a histogram", own), api.ErrType)
			checkWrong(t, lines("# TYPE a histogram", metric+" 1", own), api.ErrType)
			checkWrong(t, lines("# HELP a x", "# TYPE a histogram", metric+" 1", "", own), api.ErrType)
		}
	}
	for _, ending := range []string{"_total", "_created", "_buckets", "_bucke", "_", "_SUM", "sum", "_count_sum", "_sum_count", "_sum_", ":sum"} {
		metric := "a" + ending
		check(t, lines("# TYPE a histogram", "a_sum 1", metric+" 2"), family("a", histogram, "", of("a_sum", 1)), bare(metric, of(metric, 2)))
		checkWrong(t, lines("# TYPE a histogram", "a_sum 1", metric+" 2", "a 1"), api.ErrOrder)
	}
	check(t, lines("# TYPE a histogram", "x_sum 1"), family("a", histogram, ""), bare("x_sum", of("x_sum", 1)))
	check(t, lines("# TYPE a histogram", "_sum 1"), family("a", histogram, ""), bare("_sum", of("_sum", 1)))
}

func TestSummaries(t *testing.T) {
	summary := api.TypeSummary
	check(t, lines("# HELP a x", "# TYPE a summary", `a{quantile="0.5"} 1`, "a_sum 2", "a_count 3", "a 4"), family("a", summary, "x", of(`a{quantile="0.5"}`, 1), of("a_sum", 2), of("a_count", 3), of("a", 4)))
	check(t, lines("# TYPE a summary", "a_sum 1", "a_bucket 2", "a_bucket{b=\"c\"} 3"), family("a", summary, "", of("a_sum", 1)), bare("a_bucket", of("a_bucket", 2), of(`a_bucket{b="c"}`, 3)))
	for _, own := range []string{"a 1", "a_sum 7", "a_count 1", "# HELP a x"} {
		want := api.OK
		if !strings.Contains(own, "_") {
			want = api.ErrOrder
		}
		if _, e := expo.Parse([]byte(lines("# TYPE a summary", "a_bucket 2", own)), 50); e != want {
			t.Errorf("%q: %v", own, e)
		}
	}
	for _, ending := range []string{"_sum", "_count"} {
		metric := "a" + ending
		check(t, lines("# TYPE a summary", metric+" 1"), family("a", summary, "", of(metric, 1)))
		check(t, lines("# TYPE a summary", "b 1", metric+" 1"), family("a", summary, ""), bare("b", of("b", 1)), bare(metric, of(metric, 1)))
		check(t, lines(metric+" 1", "# TYPE a summary", "a 1"), bare(metric, of(metric, 1)), family("a", summary, "", of("a", 1)))
	}
}

func TestEndingsOfOtherTypes(t *testing.T) {
	for _, word := range []string{"", "counter", "gauge", "untyped"} {
		kind, _ := expo.TypeOf(word)
		begin := lines("# HELP a x")
		if word != "" {
			begin += lines("# TYPE a " + word)
		}
		check(t, begin+"a 1\n", family("a", kind, "x", of("a", 1)))
		for _, ending := range endings() {
			metric := "a" + ending
			check(t, begin+metric+" 1\n", family("a", kind, "x"), bare(metric, of(metric, 1)))
			check(t, begin+lines("a 1", metric+" 2", metric+`{b="c"} 3`), family("a", kind, "x", of("a", 1)), bare(metric, of(metric, 2), of(metric+`{b="c"}`, 3)))
			checkWrong(t, begin+lines(metric+" 1", "a 1"), api.ErrOrder)
		}
	}
}

// P10.1: families whose own name ends as a histogram's part

func TestNamesThatEndAsParts(t *testing.T) {
	for _, ending := range endings() {
		metric := "a" + ending
		for i, word := range words()[:3] {
			own := family(metric, api.FamilyType(i), "", of(metric, 1))
			check(t, lines("# TYPE "+metric+" "+word, metric+" 1", "# TYPE a histogram", metric+`{b="c"} 2`), own, family("a", api.TypeHistogram, "", of(metric+`{b="c"}`, 2)))
			check(t, lines("# TYPE a histogram", metric+`{b="c"} 2`, "# TYPE "+metric+" "+word, metric+" 1"), family("a", api.TypeHistogram, "", of(metric+`{b="c"}`, 2)), own)
			checkWrong(t, lines("# TYPE "+metric+" "+word, metric+" 1", "# TYPE a histogram", metric+" 2"), api.ErrTwice)
			checkWrong(t, lines("# TYPE a histogram", metric+" 2", "# TYPE "+metric+" "+word, metric+" 1"), api.ErrTwice)
			checkWrong(t, lines(metric+" 1", "# TYPE a histogram", "# TYPE "+metric+" "+word), api.ErrOrder)
			checkWrong(t, lines(metric+" 1", "# TYPE a histogram", "a_sum{d=\"e\"} 1", "b 1", metric+`{b="c"} 2`), api.ErrOrder)
		}
		for _, more := range endings() {
			check(t, lines("# TYPE "+metric+" histogram", metric+more+" 1", "# TYPE a histogram", metric+" 2", metric+more+`{b="c"} 3`),
				family(metric, api.TypeHistogram, "", of(metric+more, 1)), family("a", api.TypeHistogram, "", of(metric, 2)), bare(metric+more, of(metric+more+`{b="c"}`, 3)))
		}
	}
}

// P10.1, P10.3: a series has one sample.

func TestSeriesTwice(t *testing.T) {
	for _, x := range [][2]string{
		{"a 1", "a 1"}, {"a 1", "a 2"}, {"a 1 7", "a 1 8"}, {"a 1", "a{} 1"}, {"a 1 7", "a\t1"}, {`a{b="c"} 1`, `a{b="c"} 2`}, {`a{b="c"} 1`, `a { b = "c" , } 1`},
		{`a{b="1",c="2"} 1`, `a{c="2",b="1"} 1`}, {`a{d="",c="2",b="1"} 1`, `a{b="1",d="",c="2"} 3`}, {`a{b="\\\n"} 1`, `a{b="\\\n",} 1`},
	} {
		checkWrong(t, lines(x[0], x[1]), api.ErrTwice)
		checkWrong(t, lines(x[0], "", `a{z="z"} 1`, "# words", x[1]), api.ErrTwice)
		checkWrong(t, lines("# TYPE a gauge", x[0], x[1]), api.ErrTwice)
		checkWrong(t, lines("b 1", x[0], x[1], "b 1"), api.ErrTwice)
	}
	check(t, lines("a 1", `a{b=""} 1`, `a{b="1"} 1`, `a{c="1"} 1`, `a{b="1",c="1"} 1`, `a{b="\n"} 1`, "a{b=\"\\\\n\"} 1"),
		bare("a", of("a", 1), of(`a{b=""}`, 1), of(`a{b="1"}`, 1), of(`a{c="1"}`, 1), of(`a{b="1",c="1"}`, 1), of(`a{b="\n"}`, 1), of(`a{b="\\n"}`, 1)))
	for _, word := range []string{"histogram", "summary"} {
		checkWrong(t, lines("# TYPE a "+word, "a_sum 1", "a_count 1", "a_sum 1"), api.ErrTwice)
		checkWrong(t, lines("a_sum 1", "b 1", "# TYPE a "+word, "a_sum 1"), api.ErrTwice) // in another family
		checkWrong(t, lines("# TYPE a "+word, "a_sum 1", "b 1", "a_sum 1"), api.ErrTwice)
	}
}

// P10.1: times

func TestTimes(t *testing.T) {
	for _, now := range []int64{0, 1, 50, api.MaxTime, api.MaxTime + 1, -1, math.MaxInt64, math.MinInt64} {
		for _, time := range []int64{0, 7, 50, api.MaxTime} {
			checkNow(t, lines("a 1", fmt.Sprintf("b 2 %d", time), "c 3", `c{d="e"} -4 0`), now,
				bare("a", api.Sample{Name: "a", Value: 1000000, Time: now}), bare("b", api.Sample{Name: "b", Value: 2000000, Time: time}),
				bare("c", api.Sample{Name: "c", Value: 3000000, Time: now}, api.Sample{Name: `c{d="e"}`, Value: -4000000}))
		}
	}
}

// P10.1: Counts is not told, whatever the type is.

func TestCountsIsNotTold(t *testing.T) {
	for _, word := range words() {
		text := lines("# TYPE a "+word, "a_bucket 1", "a_count 1", "a_sum 1")
		if word != "histogram" {
			text = lines("# TYPE a "+word, "a 1", `a{b="c"} 2`)
		}
		l, _ := expo.Parse([]byte(text), 50)
		for _, f := range l {
			for _, x := range f.Samples {
				if x.Counts {
					t.Errorf("%s: %+v", word, x)
				}
			}
		}
		if len(l) == 0 || len(l[0].Samples) < 2 {
			t.Errorf("%s: %+v", word, l)
		}
	}
}

// P10.1: MaxSamples

// many are so many lines of samples of a.
func many(n int) []string {
	l := make([]string, n)
	for i := range l {
		l[i] = fmt.Sprintf(`a{b="%d"} 1`, i)
	}
	return l
}

func TestManySamples(t *testing.T) {
	full := lines(many(4096)...)
	l, e := expo.Parse([]byte(full), 50)
	if e != api.OK || len(l) != 1 || len(l[0].Samples) != 4096 {
		t.Fatalf("4096: %d families, %v", len(l), e)
	}
	for i, x := range l[0].Samples {
		if x != of(fmt.Sprintf(`a{b="%d"}`, i), 1) {
			t.Fatalf("%d: %+v", i, x)
		}
	}
	checkWrong(t, lines(many(4097)...), api.ErrLarge)
	checkWrong(t, lines(many(5000)...), api.ErrLarge)
	behind := map[string]api.Errno{
		"a 1\n": api.ErrLarge, "b 1\n": api.ErrLarge, "a_sum 1 7\n": api.ErrLarge, "\n# words\nb 1\n": api.ErrLarge, "# TYPE b summary\nb_sum 1\n": api.ErrLarge, "b 1\nx y z w\n": api.ErrLarge,
		"a x\n": api.ErrNumber, "a\n": api.ErrLine, "b NaN\n": api.ErrRange, "b 1": api.ErrLine, "a{1=\"\"} 1\n": api.ErrLabel, "a{b=\"0\"} 1\n": api.ErrTwice, "# TYPE b histogram\nb 1\n": api.ErrType, "# HELP b x\na 1\n": api.ErrOrder, "# HELP a x\n": api.ErrOrder, "# HELP b\n# HELP b\n": api.ErrTwice, "#": api.ErrLine,
	}
	for s, want := range behind {
		checkWrong(t, full+s, want)
	}
	for _, s := range []string{"\n", "# words\n", "# HELP b x\n", "# TYPE b histogram\n# HELP b\n", "# TYPE b gauge\n# TYPE c gauge\n \n"} { // no sample
		if l, e := expo.Parse([]byte(full+s), 50); e != api.OK || len(l) != 1+strings.Count(s, "TYPE")+strings.Count(s, "HELP b x") {
			t.Errorf("4096 samples and %q: %d families, %v", s, len(l), e)
		}
	}
}

// P10.1: MaxSamples is of all families together.

func TestManySamplesOfManyFamilies(t *testing.T) {
	var l []string
	for i := range 4096 {
		l = append(l, fmt.Sprintf("m%d 1", i))
	}
	if f, e := expo.Parse([]byte(lines(l...)), 50); e != api.OK || len(f) != 4096 {
		t.Errorf("%d, %v", len(f), e)
	}
	checkWrong(t, lines(append(l, `m4095{b="c"} 1`)...), api.ErrLarge)
	checkWrong(t, lines(append(l, "n 1")...), api.ErrLarge)
	checkWrong(t, lines(append(l, "m0 1")...), api.ErrOrder)
	checkWrong(t, lines(append(l, "m4095 1")...), api.ErrTwice)
}

// P10.1: of the errors of one line the one that is first in the chapter's order

func TestOrderOfErrors(t *testing.T) {
	full := lines(many(4096)...)
	for text, want := range map[string]api.Errno{
		"a 1\nb 1\na x":                              api.ErrNumber, // the line's, ahead of its end
		"a 1\na{1=\"\"} 1":                           api.ErrLabel,
		"a 1\nb 1\na{b=\"c\"} 1":                     api.ErrLine, // its end, ahead of its order
		"a 1\na 1":                                   api.ErrLine,
		"# TYPE a histogram\na 1":                    api.ErrLine,
		"# HELP a x\n# HELP a x":                     api.ErrLine,
		full + "b 1":                                 api.ErrLine,
		"a 1\nb 1\na NaN\n":                          api.ErrRange,
		"a 1\na x\n":                                 api.ErrNumber,
		"# TYPE a histogram\na x\n":                  api.ErrNumber,
		full + "b x\n":                               api.ErrNumber,
		"a 1\nb 1\na 1\n":                            api.ErrOrder, // the order, ahead of what comes twice
		"# HELP a x\na 1\n# HELP a x\n":              api.ErrOrder,
		"# HELP a x\nb 1\n# HELP a x\n":              api.ErrOrder,
		"# TYPE a gauge\n# HELP b\n# TYPE a gauge\n": api.ErrOrder,
		"# TYPE a histogram\nb 1\na 1\n":             api.ErrOrder, // and of its type
		full + "b 1\n":                               api.ErrLarge,
		full + "# HELP b\na{c=\"d\"} 1\n":            api.ErrOrder, // and of how many there are
		"# TYPE x histogram\nx_sum 1\n# TYPE x_sum histogram\nx_sum 2\n": api.ErrTwice, // twice, ahead of its type
		full + "a{b=\"7\"} 1\n":            api.ErrTwice, // and of how many there are
		full + "# TYPE b histogram\nb 1\n": api.ErrType,  // its type, ahead of how many there are
	} {
		checkWrong(t, text, want)
	}
}

// P10.1: the first line that has an error tells it.

func TestFirstError(t *testing.T) {
	ahead := lines("b 1", "c_sum 1", "# TYPE c histogram", "# HELP c")
	wrong := map[string]api.Errno{
		"c": api.ErrLine, `c{1=""} 1`: api.ErrLabel, "c x": api.ErrNumber, "c NaN": api.ErrRange, "b 1": api.ErrOrder, "# HELP b": api.ErrOrder, "c_sum 1": api.ErrTwice, "# TYPE c gauge": api.ErrTwice, "c 1": api.ErrType,
	}
	for first, want := range wrong {
		for behind := range wrong {
			checkWrong(t, ahead+lines(first, behind), want)
			checkWrong(t, ahead+lines(first)+behind, want)
			checkWrong(t, ahead+lines("", "# words", first, "", "# words", behind), want)
			checkWrong(t, ahead+lines(first, "a 1", "a 1", behind), want)
		}
	}
}

// P10.3: an exposition is the same, whatever was read ahead of it, and whatever is done with what was answered.

func TestTextsKeepNothing(t *testing.T) {
	texts := []string{lines("# TYPE a histogram", "a_sum 1", "b 2"), lines("a 1", `a{b="c"} 2`), lines("a x"), lines("# HELP a x", "# HELP a y"), "", lines("# TYPE a gauge", "a 1 7"), lines("b 1", "a 1")}
	for _, ahead := range texts {
		for _, text := range texts {
			expo.Parse([]byte(ahead), 7)
			checkReckoned(t, text)
		}
	}
	b := []byte(lines("# HELP a some words", "# TYPE a summary", `a{b="c"} 1`, "a_sum 2", "b 3", "c 4", `c{d="e"} 5`))
	want, _ := reckon(string(b), 50)
	l, e := expo.Parse(b, 50)
	for i := range b {
		b[i] = 'x'
	}
	if e != api.OK || !same(l, want) {
		t.Fatalf("%+v, %v", l, e)
	}
	for i := range l {
		l[i].Samples = append(l[i].Samples, of("z", 9))
		clear(l[i].Samples)
		for j := i + 1; j < len(l); j++ { // each list is its own
			if !slices.Equal(l[j].Samples, want[j].Samples) {
				t.Errorf("%d, %d: %+v", i, j, l[j])
			}
		}
	}
}

// P10.3: great texts end, too.

func TestGreatTexts(t *testing.T) {
	const size = 1 << 20
	for _, s := range []string{"\n", " ", "#\n", "a", "a 1\n", "#", "# HELP a\n", "\x00", "\x00\n", "{", "\"", "\\", "a{b=\"", ","} {
		for _, ahead := range []string{"", "# HELP a ", "# TYPE a histogram\n", "a 1\n"} {
			for _, behind := range []string{"", "\n", " 1\n"} {
				_, e := expo.Parse([]byte(ahead+strings.Repeat(s, size/len(s))+behind), 50)
				switch e {
				case api.OK, api.ErrLine, api.ErrLabel, api.ErrNumber, api.ErrRange, api.ErrOrder, api.ErrTwice, api.ErrType, api.ErrLarge:
				default:
					t.Errorf("%q, %q often, %q: %v", ahead, s, behind, e)
				}
			}
		}
	}
	var b strings.Builder
	for i := range 200000 {
		fmt.Fprintf(&b, "# TYPE m%d histogram\n# HELP m%d %d\n", i, i, i)
	}
	if l, e := expo.Parse([]byte(b.String()), 50); e != api.OK || len(l) != 200000 {
		t.Errorf("%d families, %v", len(l), e)
	}
	checkWrong(t, b.String()+"m0_sum 1\nm0 1\n", api.ErrOrder)
}
