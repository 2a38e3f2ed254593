package lex_test

import (
	"math/big"
	"regexp"
	"strings"
	"testing"

	"odometer/api"
	"odometer/fix"
	"odometer/label"
	"odometer/lex"
)

const (
	blanks    = `[ \t]*`
	part      = `[a-zA-Z0-9_:]+`
	pairText  = `(` + part + `)` + blanks + `=` + blanks + `"((?:[^"\\]|\\[\\"n])*)"`
	pairsText = `(?:` + blanks + pairText + blanks + `(?:,` + blanks + pairText + blanks + `)*,?)?` + blanks
	word      = `[^ \t]+`
)

var (
	lineText    = regexp.MustCompile(`(?s)^` + blanks + `(?:#` + blanks + `(?:(HELP|TYPE)(?:[ \t](.*))?|.*))?$`)
	commentText = regexp.MustCompile(`(?s)^` + blanks + `#`)
	helpText    = regexp.MustCompile(`(?s)^` + blanks + `([a-zA-Z_:][a-zA-Z0-9_:]*)(?:[ \t]+((?:[^\\ \t]|\\[\\n])(?:[^\\]|\\[\\n])*)?)?$`)
	typeText    = regexp.MustCompile(`^` + blanks + `([a-zA-Z_:][a-zA-Z0-9_:]*)[ \t]+(counter|gauge|histogram|summary|untyped)` + blanks + `$`)
	sampleText  = regexp.MustCompile(`(?s)^` + blanks + `([a-zA-Z_:][a-zA-Z0-9_:]*)(?:` + blanks + `\{(` + pairsText + `)\}` + blanks + `(` + word + `)|[ \t]+([^ \t{][^ \t]*))(?:[ \t]+(` + word + `))?` + blanks + `$`)
	onePair     = regexp.MustCompile(`(?s)` + pairText)
	timeText    = regexp.MustCompile(`^-?[0-9]+$`)
	unescapes   = strings.NewReplacer(`\\`, `\`, `\"`, `"`, `\n`, "\n")
)

// reckon is what Line has to answer, by the chapter's words.
func reckon(s string) (api.Line, api.Errno) {
	remark := lineText.FindStringSubmatch(s)
	switch {
	case strings.Contains(s, "\n"):
		return api.Line{}, api.ErrLine
	case remark == nil:
		return reckonSample(s)
	case !commentText.MatchString(s):
		return api.Line{}, api.OK
	case remark[1] == "HELP":
		if x := helpText.FindStringSubmatch(remark[2]); x != nil && len(x[1]) <= 200 {
			return api.Line{Kind: api.LineHelp, Metric: x[1], Text: unescapes.Replace(strings.ReplaceAll(x[2], `"`, `\"`))}, api.OK
		}
		return api.Line{}, api.ErrLine
	case remark[1] == "TYPE":
		if x := typeText.FindStringSubmatch(remark[2]); x != nil && len(x[1]) <= 200 {
			return api.Line{Kind: api.LineType, Metric: x[1], Text: x[2]}, api.OK
		}
		return api.Line{}, api.ErrLine
	}
	return api.Line{Kind: api.LineComment}, api.OK
}

// reckonSample is what Line has to answer of what is no other line.
func reckonSample(s string) (api.Line, api.Errno) {
	x := sampleText.FindStringSubmatch(s)
	if x == nil || len(x[1]) > 200 {
		return api.Line{}, api.ErrLine
	}
	var l []api.Label
	for _, p := range onePair.FindAllStringSubmatch(x[2], -1) {
		l = append(l, api.Label{Name: p[1], Value: unescapes.Replace(p[2])})
	}
	name, e := label.Name(x[1], l...)
	if e != api.OK {
		return api.Line{}, api.ErrLabel
	}
	value, e := fix.Parse(x[len(x)-3] + x[len(x)-2]) // one of them has no bytes
	if e != api.OK {
		return api.Line{}, e
	}
	line := api.Line{Kind: api.LineSample, Metric: x[1], Name: name, Value: value}
	if text := x[len(x)-1]; text != "" {
		time, _ := new(big.Int).SetString(text, 10)
		switch {
		case !timeText.MatchString(text):
			return api.Line{}, api.ErrNumber
		case time.Sign() < 0 || time.Cmp(big.NewInt(1<<50)) > 0:
			return api.Line{}, api.ErrRange
		}
		line.Time, line.Timed = time.Int64(), true
	}
	return line, api.OK
}

// check holds Line to what a line is.
func check(t *testing.T, s string, want api.Line) {
	t.Helper()
	if x, e := lex.Line(s); x != want || e != api.OK {
		t.Errorf("Line(%.300q), of %d bytes, = %.300q, %v, want %.300q", s, len(s), show(x), e, show(want))
	}
}

// checkWrong holds Line to an error.
func checkWrong(t *testing.T, s string, want api.Errno) {
	t.Helper()
	if x, e := lex.Line(s); x != (api.Line{}) || e != want {
		t.Errorf("Line(%.300q), of %d bytes, = %.300q, %v, want %v", s, len(s), show(x), e, want)
	}
}

// checkReckoned holds Line to the chapter's words.
func checkReckoned(t *testing.T, s string) {
	t.Helper()
	if want, wrong := reckon(s); wrong != api.OK {
		checkWrong(t, s, wrong)
	} else {
		check(t, s, want)
	}
}

// sequence gives numbers below others, the same in each run.
func sequence() func(below int) int {
	state := uint64(1)
	return func(below int) int {
		state = state*6364136223846793005 + 1442695040888963407
		return int(state >> 33 % uint64(below))
	}
}

// checkTexts holds Line to the chapter's words of all texts of so many of the letters at most, put between ahead and behind.
func checkTexts(t *testing.T, ahead, letters string, most int, behind string) {
	t.Helper()
	checkReckoned(t, ahead+behind)
	if most == 0 {
		return
	}
	for i := range len(letters) {
		checkTexts(t, ahead+letters[i:i+1], letters, most-1, behind)
	}
}

// P9.1, P9.3
func TestShortLines(t *testing.T) {
	checkTexts(t, "", "# \ta1{}=\",\\\n", 5, "")
	checkTexts(t, "#", " \tHELP", 6, " a")
	checkTexts(t, "#", " TYPE", 6, " a gauge")
	checkTexts(t, "# HELP", " \ta1\\n\"#\x00", 5, "")
	checkTexts(t, "# TYPE", " \ta1#", 4, " gauge ")
	checkTexts(t, "# TYPE a", " \t1-", 4, "gauge")
	checkTexts(t, "# TYPE a gauge", " \tu1", 4, "")
	checkTexts(t, "a{", " ab1=\",\\", 5, "} 1")
	checkTexts(t, "a{b=\"1\"", " ,c\"=}", 5, "=\"2\"} 1")
	checkTexts(t, "a{b=\"", "\"\\nx,}", 5, "\"} 1")
	checkTexts(t, "a", " \t1+-.e{}", 5, "")
	checkTexts(t, "a{}", " \t1-x", 5, "")
	checkTexts(t, "a 1", " \t01-x", 6, "")
}

// P9.1, P9.3: of lines, each byte becomes each other one, goes, or comes twice.
func TestEachByteOfLines(t *testing.T) {
	for _, line := range []string{
		"", " \t", "# some words", " #\tHELP  a:b\tThe \\n \\\\ \"text\" ", "#HELP a", "# TYPE a9_ histogram\t", "#TYPE b untyped", "up 1", "a:b_C9 -2.5e1 10 ", "a{}1", "\ta { c = \"1\" , b=\"\\\"\\n\\\\\" , }\t+.5e3 10",
		"a{b=\"x\",B=\"y\",a=\"\"} 1 1125899906842624", "a Inf -1", "a{b=\"1\",b=\"1\"} 1e-7 x",
	} {
		for i := range len(line) + 1 {
			checkReckoned(t, line[:i])
			checkReckoned(t, line[i:])
			for c := range 256 {
				one := string([]byte{byte(c)})
				checkReckoned(t, line[:i]+one+line[i:])
				if i < len(line) {
					checkReckoned(t, line[:i]+one+line[i+1:])
				}
			}
			if i < len(line) {
				checkReckoned(t, line[:i]+line[i+1:])
			}
		}
	}
}

// someLine is a line of some of the pieces, a few of its bytes perhaps others.
func someLine(next func(below int) int) string {
	pieces := [][]string{
		{"a", "b:c", "_", "A9", "", "9", "é"},
		{"{", "{", "{", "{ ", ""},
		{"a=\"1\"", "b=\"x\\ny\"", " c\t= \"\\\\\\\"\" ", "", "d=\"\xff{}\"", "b=\"2\"", "1=\"\"", "c:=\"1\"", "e=\"\\t\""},
		{",", ",", ",", " , ", "\t,", "", ",,"},
		{"b=\"1\"", "B=\"\" ", "\tf=\" \"", "", "=\"1\"", "g\"1\""},
		{",", "", "", " ,"},
		{"}", "}", "} ", ""},
		{" ", "\t", " \t ", ""},
		{"1", "-2.5", "1e3", "+.000001", "9223372036854.775807", "0", "x", "NaN", "1e-7", "9223372036854.775808", "", "1e"},
		{" ", "\t ", "", ""},
		{"", "", "0", "7", "1125899906842624", "1125899906842625", "-1", "-0", "007", "x", "+1", "-", "99999999999999999999"},
		{"", "", "", " ", " \t", " 3", "\n"},
	}
	var b []byte
	usual := 2 + next(12) // of most, the pieces further on in a list come seldom
	for _, list := range pieces {
		b = append(b, list[next(min(usual, len(list)))]...)
	}
	if next(8) == 0 && len(b) > 0 {
		b[next(len(b))] = byte(next(256))
	}
	return string(b)
}

// P9.1, P9.3
func TestSomeLines(t *testing.T) {
	next, came := sequence(), make(map[api.Errno]int)
	for range 300000 {
		s := someLine(next)
		checkReckoned(t, s)
		if t.Failed() {
			return
		}
		_, e := lex.Line(s)
		came[e]++
	}
	for _, e := range []api.Errno{api.OK, api.ErrLine, api.ErrLabel, api.ErrNumber, api.ErrRange} {
		if came[e] < 2000 {
			t.Errorf("%v came %d times alone", e, came[e])
		}
	}
}
