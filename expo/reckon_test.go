package expo_test

import (
	"bytes"
	"fmt"
	"slices"
	"strings"
	"testing"

	"odometer/api"
	"odometer/expo"
	"odometer/lex"
)

// told is a line that was read, and the metric of the family to which it belongs (no bytes: to none).
type told struct {
	api.Line
	family string
}

// reckon is what Parse has to answer, by the chapter's words: of each line it looks at all that came ahead.
func reckon(text string, now int64) ([]api.Family, api.Errno) {
	var past []told
	for _, s := range strings.SplitAfter(text, "\n") {
		if s == "" { // what stands behind the last end
			break
		}
		line, e := lex.Line(strings.TrimSuffix(s, "\n"))
		switch {
		case e != api.OK:
			return nil, e
		case !strings.HasSuffix(s, "\n"):
			return nil, api.ErrLine
		}
		x := told{line, ownerOf(past, line)}
		if e := wrongOf(past, x); e != api.OK {
			return nil, e
		}
		past = append(past, x)
	}
	return familiesOf(past, now), api.OK
}

// currentOf is the metric of the current family (no bytes: there is none).
func currentOf(past []told) string {
	for _, x := range slices.Backward(past) {
		if x.family != "" {
			return x.family
		}
	}
	return ""
}

// wordOf is the word of a family's type (no bytes: none was told).
func wordOf(past []told, family string) string {
	for _, x := range past {
		if x.family == family && x.Kind == api.LineType {
			return x.Text
		}
	}
	return ""
}

// ownerOf is the metric of the family to which a line belongs.
func ownerOf(past []told, line api.Line) string {
	if line.Kind != api.LineSample {
		return line.Metric // an empty line and a comment have none
	}
	endings := map[string][]string{"histogram": {"_bucket", "_sum", "_count"}, "summary": {"_sum", "_count"}}
	current := currentOf(past)
	for _, ending := range endings[wordOf(past, current)] {
		if line.Metric == current+ending {
			return current
		}
	}
	return line.Metric
}

// wrongOf is the error of a line that is one, and ended.
func wrongOf(past []told, x told) api.Errno {
	samples, begun, sampled, again, twice := 0, false, false, false, false
	for _, y := range past {
		mine, sample := y.family == x.family, y.Kind == api.LineSample
		begun = begun || mine
		sampled = sampled || mine && sample
		again = again || mine && y.Kind == x.Kind
		twice = twice || sample && y.Name == x.Name
		if sample {
			samples++
		}
	}
	sample := x.Kind == api.LineSample
	switch {
	case x.family == "":
		return api.OK
	case begun && currentOf(past) != x.family, !sample && sampled:
		return api.ErrOrder
	case sample && twice, !sample && again:
		return api.ErrTwice
	case sample && wordOf(past, x.family) == "histogram" && x.Metric == x.family:
		return api.ErrType
	case sample && samples >= 4096:
		return api.ErrLarge
	}
	return api.OK
}

// familiesOf are the families of lines that have no error.
func familiesOf(past []told, now int64) []api.Family {
	var l []api.Family
	for _, x := range past {
		if x.family == "" {
			continue
		}
		if len(l) == 0 || l[len(l)-1].Metric != x.family {
			l = append(l, api.Family{Metric: x.family})
		}
		f := &l[len(l)-1]
		switch x.Kind {
		case api.LineHelp:
			f.Help = x.Text
		case api.LineType:
			f.Type = map[string]api.FamilyType{"counter": 1, "gauge": 2, "histogram": 3, "summary": 4}[x.Text]
		case api.LineSample:
			s := api.Sample{Name: x.Name, Value: x.Value, Time: now}
			if x.Timed {
				s.Time = x.Time
			}
			f.Samples = append(f.Samples, s)
		}
	}
	return l
}

// same: are these the same families?
func same(a, b []api.Family) bool {
	return slices.EqualFunc(a, b, func(x, y api.Family) bool {
		return x.Metric == y.Metric && x.Type == y.Type && x.Help == y.Help && slices.Equal(x.Samples, y.Samples)
	})
}

// checkNow holds Parse to the families of a text at a time, and to leaving the text as it is.
func checkNow(t *testing.T, text string, now int64, want ...api.Family) {
	t.Helper()
	b := []byte(text)
	if l, e := expo.Parse(b, now); e != api.OK || !same(l, want) {
		t.Errorf("Parse(%.500q, %d) = %.500s, %v, want %.500s", text, now, fmt.Sprintf("%+v", l), e, fmt.Sprintf("%+v", want))
	}
	if !bytes.Equal(b, []byte(text)) {
		t.Errorf("Parse(%.500q, %d) changed it", text, now)
	}
}

// check holds Parse to the families of a text at 50.
func check(t *testing.T, text string, want ...api.Family) {
	t.Helper()
	checkNow(t, text, 50, want...)
}

// checkWrong holds Parse to an error.
func checkWrong(t *testing.T, text string, want api.Errno) {
	t.Helper()
	if l, e := expo.Parse([]byte(text), 50); e != want || len(l) > 0 {
		t.Errorf("Parse(%.500q) = %.500s, %v, want %v", text, fmt.Sprintf("%+v", l), e, want)
	}
}

// checkReckoned holds Parse to the chapter's words, and tells the error.
func checkReckoned(t *testing.T, text string) api.Errno {
	t.Helper()
	want, wrong := reckon(text, 50)
	if wrong != api.OK {
		checkWrong(t, text, wrong)
	} else {
		check(t, text, want...)
	}
	return wrong
}

// lines are lines as they stand in a text.
func lines(l ...string) string {
	var b strings.Builder
	for _, s := range l {
		b.WriteString(s + "\n")
	}
	return b.String()
}

// family is a family.
func family(metric string, t api.FamilyType, help string, l ...api.Sample) api.Family {
	return api.Family{Metric: metric, Type: t, Help: help, Samples: l}
}

// bare is a family that has no type and no help.
func bare(metric string, l ...api.Sample) api.Family {
	return family(metric, api.TypeUntyped, "", l...)
}

// of is a sample of a whole number, at 50.
func of(name string, value int64) api.Sample {
	return api.Sample{Name: name, Value: value * 1000000, Time: 50}
}

// sequence gives numbers below others, the same in each run.
func sequence() func(below int) int {
	state := uint64(1)
	return func(below int) int {
		state = state*6364136223846793005 + 1442695040888963407
		return int(state >> 33 % uint64(below))
	}
}

// checkTexts holds Parse to the chapter's words of all texts of so many of the lines at most, behind one.
func checkTexts(t *testing.T, ahead string, list []string, most int) {
	t.Helper()
	wrong := checkReckoned(t, ahead)
	if most == 0 || t.Failed() || wrong != api.OK && most < 3 { // of wrong ones, only a few go on
		return
	}
	for _, s := range list {
		checkTexts(t, ahead+s+"\n", list, most-1)
	}
}

// P10.1, P10.3
func TestShortTexts(t *testing.T) {
	checkTexts(t, "", []string{
		"", "# words", "# HELP a", "# HELP a x", "# TYPE a histogram", "# TYPE a summary", "# TYPE a counter", "a 1", "a{b=\"1\"} 2 7", "a_bucket 1", "a_sum 1", "a_count 1",
		"# HELP a_count y", "# TYPE a_count histogram", "a_count_sum 1", "# TYPE b gauge", "b 1", "b_sum 1", "# TYPE b summary", "a x",
	}, 4)
	checkTexts(t, "", []string{"# HELP a x", "# TYPE a histogram", "a_sum 1", "a_count 1", "# TYPE a_sum histogram", "# TYPE a_count summary", "a 1"}, 6)
}

// P10.1, P10.3: of texts, each byte becomes each other one, goes, or comes twice; and each is cut.
func TestEachByteOfTexts(t *testing.T) {
	for _, text := range []string{
		lines("# HELP a x", "# TYPE a counter", "a{b=\"1\"} 1 7", "", "a 2"),
		lines("# TYPE a histogram", "a_bucket{le=\"1\"} 2", "a_sum 3", "a_count 4", "b 5"),
		lines("a_sum 1", "# words", "# TYPE a summary", "# HELP a", "a 1", "a_count 2"),
	} {
		for i := range len(text) + 1 {
			checkReckoned(t, text[:i])
			checkReckoned(t, text[i:])
			for c := range 256 {
				one := string([]byte{byte(c)})
				checkReckoned(t, text[:i]+one+text[i:])
				if i < len(text) {
					checkReckoned(t, text[:i]+one+text[i+1:])
				}
			}
			if i < len(text) {
				checkReckoned(t, text[:i]+text[i+1:])
			}
		}
	}
}

// someFamily is the lines of a family, most of them such as may be.
func someFamily(next func(below int) int, metric string) []string {
	word := []string{"histogram", "histogram", "summary", "counter", "gauge", "untyped", ""}[next(7)]
	var l []string
	if next(2) == 0 {
		l = append(l, "# HELP "+metric+[]string{"", " some words", " \\n\\\\"}[next(3)])
	}
	if word != "" {
		l = slices.Insert(l, next(len(l)+1), "# TYPE "+metric+" "+word)
	}
	endings := map[string][]string{"histogram": {"_bucket", "_bucket", "_sum", "_count"}, "summary": {"", "_sum", "_count"}}[word]
	if endings == nil || next(16) == 0 {
		endings = []string{""}
	}
	for range next(5) {
		labels := []string{"", "{}", "{b=\"1\"}", "{b=\"1\",c=\"2\"}", "{c=\"2\",b=\"1\"}", "{le=\"+Inf\"}", "{le=\"1\"}", "{c=\"\"}"}[next(8)]
		l = append(l, metric+endings[next(len(endings))]+labels+[]string{" 1", " 2.5 7", "\t-3", " 4 0 "}[next(4)])
	}
	if next(3) == 0 {
		l = slices.Insert(l, next(len(l)+1), []string{"", " \t", "# words", "#", "# EOF"}[next(5)])
	}
	return l
}

// someText is a text of some families, with a fault or none.
func someText(next func(below int) int) string {
	metrics := []string{"a", "b", "a_sum", "a_count", "a_bucket", "b_count", "c:d", "a_count_sum", "_sum", "z"}
	var l []string
	for range next(6) {
		i := next(len(metrics))
		l = append(l, someFamily(next, metrics[i])...)
		if next(8) > 0 { // it seldom comes again
			metrics = slices.Delete(metrics, i, i+1)
		}
	}
	for range []int{0, 0, 1, 2}[next(4)] {
		if len(l) == 0 {
			break
		}
		i, j := next(len(l)), next(len(l))
		switch next(4) {
		case 0:
			l[i], l[j] = l[j], l[i]
		case 1:
			l = slices.Insert(l, j, l[i])
		case 2:
			l = slices.Delete(l, i, i+1)
		case 3:
			l[i] = []string{"a x", "a NaN", "a{1=\"\"} 1", "a", "# TYPE a", "a 1 -1", "a 1 x", "# HELP a \\x", "9"}[next(9)]
		}
	}
	text := lines(l...)
	if next(16) == 0 && text != "" {
		text = text[:next(len(text))]
	}
	return text
}

// P10.1, P10.3
func TestSomeTexts(t *testing.T) {
	next, came := sequence(), make(map[api.Errno]int)
	for range 100000 {
		came[checkReckoned(t, someText(next))]++
		if t.Failed() {
			return
		}
	}
	for _, e := range []api.Errno{api.OK, api.ErrLine, api.ErrLabel, api.ErrNumber, api.ErrRange, api.ErrOrder, api.ErrTwice, api.ErrType} {
		if came[e] < 400 {
			t.Errorf("%v came %d times alone", e, came[e])
		}
	}
}
