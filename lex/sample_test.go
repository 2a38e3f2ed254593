package lex_test

import (
	"fmt"
	"math"
	"strings"
	"testing"

	"odometer/api"
	"odometer/fix"
	"odometer/label"
	"odometer/lex"
)

// one is the sample of a metric and a series' name that is 1 and has no time.
func one(metric, name string) api.Line {
	return api.Line{Kind: api.LineSample, Metric: metric, Name: name, Value: 1000000}
}

// P9.1: the metric's name

func TestMetrics(t *testing.T) {
	for _, metric := range append(names(), "TYPE", "e1", "NaN", "Inf") {
		check(t, metric+" 1", one(metric, metric))
		check(t, metric+"{}1", one(metric, metric))
		check(t, metric+`{b="c"} 1`, one(metric, metric+`{b="c"}`))
	}
	for _, s := range noNames() {
		if strings.Contains(s, "{") && s != "{}" || s == "#" { // these are other lines
			continue
		}
		for _, behind := range []string{" 1", " 1 7", "{} 1", `{b="c"} 1`, "", " x"} {
			checkWrong(t, s+behind, api.ErrLine)
		}
	}
	for _, s := range []string{"1", "-1", "+1", ".5", "1 1", "1e3 1", `{b="c"} 1`, "{} 1", "= 1", `"a" 1`, ", 1", "} 1", "\\ 1", "! # 1", "\xff 1", "\u00a0a 1", "\ra 1"} {
		checkWrong(t, s, api.ErrLine)
	}
}

// P9.1: where blanks may stand, and where one must

func TestBlanksOfSamples(t *testing.T) {
	timed := api.Line{Kind: api.LineSample, Metric: "a", Name: `a{b="1",c="2"}`, Value: -2500000, Time: 7, Timed: true}
	parts := []string{"a", "{", "b", "=", `"1"`, ",", "c", "=", `"2"`, ",", "}", "-2.5"}
	for _, gap := range gaps() {
		check(t, gap+strings.Join(parts, gap)+gap+"7"+gap, timed)
		for i := range len(parts) {
			s := strings.Join(parts[:i], "") + gap + strings.Join(parts[i:], "")
			check(t, s+" 7", timed)
			check(t, s+gap+"7", timed)
			check(t, s+" 7"+gap, timed)
		}
		check(t, gap+"a"+gap+"1"+gap, one("a", "a"))
		check(t, "a"+gap+"1", one("a", "a"))
		check(t, "a{"+gap+"}1", one("a", "a"))
		check(t, "a"+gap+"{}"+gap+"1", one("a", "a"))
		check(t, "a{b=\""+gap+"\"}1", one("a", "a{b=\""+gap+"\"}")) // in a value they are bytes as others
	}
	for _, s := range []string{"a-1", "a+1", "a.5", "a-1 7", "a+Inf 7", "a1", "a:1", "a1 ", "a=1", `a"1"`, "a}1", "a,1", "a#1", "a\r1", "a\u00a01", "a\v1"} {
		checkWrong(t, s, api.ErrLine) // none ahead of the value
	}
	for s, wrong := range map[string]api.Errno{
		"a b 1": api.ErrNumber, "a 1-7": api.ErrNumber, "a 1\r": api.ErrNumber, "a 1 7\r": api.ErrNumber, "a 1\v7": api.ErrNumber, "a - 1": api.ErrNumber, "a 1 - 7": api.ErrLine, "a 1 e3": api.ErrNumber, "a 1 -\t7": api.ErrLine,
		`a{b c="1"} 1`: api.ErrLine, `a{b="1"c="2"} 1`: api.ErrLine, `a{b="1" c="2"} 1`: api.ErrLine, "a b{} 1": api.ErrNumber, `a{b="1"} } 1`: api.ErrNumber,
	} {
		checkWrong(t, s, wrong)
	}
}

// P9.1: labels

func TestLabels(t *testing.T) {
	for told, name := range map[string]string{
		"": "a", "{}": "a", "{ \t}": "a", `{b=""}`: `a{b=""}`, `{b="c"}`: `a{b="c"}`, `{b="c",}`: `a{b="c"}`, `{_="1"}`: `a{_="1"}`, `{a="a"}`: `a{a="a"}`, `{le="+Inf"}`: `a{le="+Inf"}`,
		`{b="1",c="2"}`: `a{b="1",c="2"}`, `{c="2",b="1",}`: `a{b="1",c="2"}`, `{c="1",B="2",b="3",A="4",_="5"}`: `a{A="4",B="2",_="5",b="3",c="1"}`,
		`{b="\\"}`: `a{b="\\"}`, `{b="\""}`: `a{b="\""}`, `{b="\n"}`: `a{b="\n"}`, `{b="\\n\"\n\\"}`: `a{b="\\n\"\n\\"}`, `{b="\\",c="\""}`: `a{b="\\",c="\""}`,
		`{b="}"}`: `a{b="}"}`, `{b="} 1 7"}`: `a{b="} 1 7"}`, `{b=","}`: `a{b=","}`, `{b=",c="}`: `a{b=",c="}`, `{b="{"}`: `a{b="{"}`, `{b="#"}`: `a{b="#"}`, "{b=\"\x00\xff\r\t é\"}": "a{b=\"\x00\xff\r\t é\"}",
		`{` + strings.Repeat("n", 200) + `="1"}`: `a{` + strings.Repeat("n", 200) + `="1"}`, `{b="` + strings.Repeat("v", 1024) + `"}`: `a{b="` + strings.Repeat("v", 1024) + `"}`, `{b="` + strings.Repeat(`\\`, 1024) + `"}`: `a{b="` + strings.Repeat(`\\`, 1024) + `"}`,
	} {
		for _, gap := range append(gaps(), "") {
			if told != "" || gap != "" {
				check(t, "a"+told+gap+"1", one("a", "a"+name[1:]))
			}
		}
	}
}

func TestNoLabels(t *testing.T) {
	for _, told := range []string{
		"{,}", "{ , }", "{,,}", `{,b="c"}`, `{b="c",,}`, `{b="c",,d="e"}`, `{b="c" d="e"}`, `{b="c"d="e"}`, `{b="c";d="e"}`, `{b="c"=}`, `{b="c""}`, `{b="c"x}`, `{b="c"{}}`, "{{}}", `{{b="c"}}`, `{b="c"`, `{b="c",`, `{b="c", `, "{", "{b", "{b=", `{b="`, `{b="c`,
		`{b="c}`, `{b="c\"}`, `{b="\`, `{b="c\\\"}`, "{b}", "{b,}", "{b=}", `{b""}`, `{b"c"}`, `{b:"c"}`, `{b=="c"}`, `{b=c}`, `{b='c'}`, `{b=1}`, `{b=c"}`, `{="c"}`, `{ = "c"}`, `{"b"="c"}`, `{"b"}`, `{""="c"}`, `{b-d="c"}`, `{b.d="c"}`, `{é="c"}`, "{b\x00=\"c\"}", "{b\r=\"c\"}", `{b =, "c"}`, `{b,="c"}`,
		`{b="\x"}`, `{b="\t"}`, `{b="\N"}`, `{b="\ "}`, `{b="\,"}`, `{b="\}"}`, "{b=\"\\\x00\"}", `{b="\\\x"}`, `{c="1",b="\x"}`, `{b="\x",c="1"}`,
	} {
		for _, behind := range []string{" 1", " 1 7", "1", ""} {
			checkWrong(t, "a"+told+behind, api.ErrLine)
			checkWrong(t, "a "+told+behind, api.ErrLine)
		}
	}
	for _, told := range []string{`{b="c"}`, "{}", `{b="c",} `, "{}\t"} { // the value is missing
		checkWrong(t, "a"+told, api.ErrLine)
	}
}

func TestBackslashesOfLabels(t *testing.T) {
	for c := range 256 {
		told := `\` + string([]byte{byte(c)})
		for _, ahead := range []string{"", "x", `\\`, `\"`, `\n`} {
			for _, behind := range []string{"", "x", `\\`, `\"`, "n"} {
				s := `a{b="` + ahead + told + behind
				switch c {
				case '\\', '"', 'n':
					check(t, s+`"} 1`, one("a", s+`"}`))
				default:
					checkWrong(t, s+`"} 1`, api.ErrLine)
				}
				checkWrong(t, s+"} 1", api.ErrLine)
			}
		}
	}
}

func TestLabelsOfNoSeries(t *testing.T) {
	many := ""
	for i := range 16 {
		many += fmt.Sprintf(`l%02d="%d",`, i, i)
	}
	check(t, "a{"+many+"} 1", one("a", "a{"+strings.TrimSuffix(many, ",")+"}"))
	for _, told := range []string{
		`1="x"`, `9b="x"`, `b:="x"`, `:="x"`, `b:c="x"`, `:b=""`, `0_="x"`, `b="1",b="1"`, `b="1",b="2"`, `b="1",c="2",b="3",`, `c="1",b="2",c="",`, `b="1",1="2"`, `1="1",b="2"`,
		strings.Repeat("n", 201) + `="1"`, `b="` + strings.Repeat("v", 1025) + `"`, `b="` + strings.Repeat(`\n`, 1025) + `"`, many + `z="1"`, `a="1",` + many, many + `x="1",y="2"`,
	} {
		for _, behind := range []string{"1", " 1 7", " x", " NaN", " 1e-7", " 1 x", " 1 -1", " x x"} { // it is told ahead of these
			checkWrong(t, "a{"+told+"}"+behind, api.ErrLabel)
		}
		for _, behind := range []string{"", " ", " 1 7 3", " 1 7 x", " x x x"} {
			checkWrong(t, "a{"+told+"}"+behind, api.ErrLine)
		}
		for _, worse := range []string{",,", ",=", ",x", `,x="\x"`, `,x="`} {
			checkWrong(t, "a{"+strings.TrimSuffix(told, ",")+worse+"} 1", api.ErrLine)
			checkWrong(t, "9{"+told+"} 1", api.ErrLine)
		}
	}
}

// P9.1: the value

func TestValues(t *testing.T) {
	for text, value := range map[string]int64{
		"0": 0, "-0": 0, "1": 1000000, "+1": 1000000, "-1": -1000000, "007": 7000000, "1.": 1000000, ".5": 500000, "-.5": -500000, "1e3": 1000000000, "1E+3": 1000000000, "25e-6": 25, "-0.000001": -1, "0.0000010": 1, "0e99": 0, "1.5e-2": 15000,
		"9223372036854.775807": math.MaxInt64, "-9223372036854.775808": math.MinInt64,
	} {
		for _, ahead := range []string{"a ", "a\t", "a{}", `a{b="c"} `} {
			name := strings.Trim(ahead, " \t{}")
			if strings.Contains(name, "{") {
				name += "}"
			}
			want := api.Line{Kind: api.LineSample, Metric: "a", Name: name, Value: value}
			check(t, ahead+text, want)
			check(t, ahead+text+"\t", want)
			want.Time, want.Timed = 7, true
			check(t, ahead+text+" 7", want)
		}
	}
	wrong := map[api.Errno][]string{
		api.ErrNumber: {"x", ".", "e5", "1e", "1_0", "--1", "+-1", "1x", "0x10", "1,5", "1e+", "1e1.5", "NaNs", "+", "-", "in", "infinit", "\"1\"", "1}", "\x00", "1\r", "\\n", "#", "1#", "=1", "}"},
		api.ErrRange:  {"NaN", "nan", "+nan", "Inf", "-Inf", "+inf", "INFINITY", "1e-7", "0.0000001", "9223372036854.775808", "-9223372036854.775809", "1e13", "1e99999999999999999999", "1.0000001"},
	}
	for e, texts := range wrong {
		for _, text := range texts {
			for _, ahead := range []string{"a ", "a{}", "a{} ", `a{b="c"}`} {
				for _, behind := range []string{"", " ", " 7", " x", " -1", " 1125899906842625", " x\t"} { // it is told ahead of the time's
					checkWrong(t, ahead+text+behind, e)
				}
				checkWrong(t, ahead+text+" 7 3", api.ErrLine)
				checkWrong(t, ahead+text+" x x", api.ErrLine)
			}
		}
	}
	for _, s := range []string{"a", "a ", " a", "a\t\t", "a{}", "a{} ", `a{b="c"} `} {
		checkWrong(t, s, api.ErrLine) // none
	}
	checkWrong(t, "a{} {}", api.ErrNumber)
	checkWrong(t, `a{b="c"}{d="e"} 1`, api.ErrNumber)
}

// P9.1: the time

func TestTimes(t *testing.T) {
	for text, time := range map[string]int64{
		"0": 0, "1": 1, "7": 7, "10": 10, "1700000000000": 1700000000000, "1125899906842623": 1<<50 - 1, "1125899906842624": 1 << 50,
		"-0": 0, "-00": 0, "00": 0, "007": 7, "01125899906842624": 1 << 50, strings.Repeat("0", 1000) + "9": 9, // decimal digits, however they begin
	} {
		for _, behind := range append(gaps(), "") {
			want := api.Line{Kind: api.LineSample, Metric: "a", Name: "a", Time: time, Timed: true}
			check(t, "a 0 "+text+behind, want)
			want.Value, want.Name = -3000000, `a{b="c"}`
			check(t, `a{b="c"}-3 `+text+behind, want)
		}
	}
	wrong := map[api.Errno][]string{
		api.ErrNumber: {"-", "+", "+1", "--1", "-+1", "x", "1x", "x1", "1.", "1.0", ".5", "1e3", "1-", "1_0", "0x1", "-x", "-1x", "NaN", "1\r", "\x00", "1\x00", "\"1\"", "{}", "#", "١", "1125899906842625x", strings.Repeat("9", 1000) + "x", "-99999999999999999999x", "99999999999999999999.5"},
		api.ErrRange:  {"-1", "-7", "-01", "-1125899906842624", "1125899906842625", "1125899906842630", "01125899906842625", "9007199254740992", "9223372036854775807", "9223372036854775808", "-9223372036854775808", "18446744073709551616", "18446744073709551617", "-18446744073709551616", "99999999999999999999", strings.Repeat("9", 1000), "-" + strings.Repeat("9", 1000), "1" + strings.Repeat("0", 64), "1" + strings.Repeat("0", 1000)},
	}
	for e, texts := range wrong {
		for _, text := range texts {
			for _, ahead := range []string{"a 1 ", "a{}1\t", `a{b="c"} -1  `} {
				checkWrong(t, ahead+text, e)
				checkWrong(t, ahead+text+" ", e)
				checkWrong(t, ahead+text+" 3", api.ErrLine)
				checkWrong(t, ahead+text+" x", api.ErrLine)
			}
		}
	}
}

func TestBehindTheTime(t *testing.T) {
	for _, behind := range []string{"3", "x", "#", "# words", "{}", "-", "\r", "\x00", "\"", "\\"} {
		checkWrong(t, "a 1 2 "+behind, api.ErrLine)
		checkWrong(t, "a{}1\t2\t"+behind+"\t", api.ErrLine)
		checkWrong(t, `a{b="c"} 1 2  `+behind, api.ErrLine)
	}
}

// P9.1: of two errors the one that is first in the chapter's order

func TestOrderOfErrors(t *testing.T) {
	label := []string{"{}", `{1="x"}`}
	value := []string{"1", "x", "NaN"}
	time := []string{"", " 7", " x", " -1"}
	behind := []string{"", " 3"}
	for l, labels := range label {
		for v, text := range value {
			for at, told := range time {
				for b, more := range behind {
					want := api.OK
					switch {
					case b == 1 && told != "": // without a time, it is the time
						want = api.ErrLine
					case l == 1:
						want = api.ErrLabel
					case v > 0:
						want = []api.Errno{api.OK, api.ErrNumber, api.ErrRange}[v]
					case at > 1:
						want = []api.Errno{api.OK, api.OK, api.ErrNumber, api.ErrRange}[at]
					}
					if _, e := lex.Line("a" + labels + text + told + more); e != want {
						t.Errorf("Line(%q): %v, want %v", "a"+labels+text+told+more, e, want)
					}
				}
			}
		}
	}
}

// P9.3: a series' name, a blank and a number's text is a sample of just these.

func TestSeriesAndNumbers(t *testing.T) {
	next := sequence()
	words, bytes := []string{"a", "b", "A", "_", "ab", "a1", "le", "HELP", "b2"}, "ab\\\"\n,=} \t#{\x00\xff1"
	for range 50000 {
		metric := []string{"a", "b_9", "a:b", ":", "TYPE"}[next(5)]
		var l []api.Label
		for _, word := range words {
			if next(2) == 0 {
				value := make([]byte, next(6))
				for i := range value {
					value[i] = bytes[next(len(bytes))]
				}
				l = append(l, api.Label{Name: word, Value: string(value)})
			}
		}
		name, _ := label.Name(metric, l...)
		value := (int64(next(1<<31))<<32 ^ int64(next(1<<31))<<1 ^ int64(next(2))<<63) >> next(64)
		want := api.Line{Kind: api.LineSample, Metric: metric, Name: name, Value: value}
		check(t, name+" "+fix.Text(value), want)
		check(t, name+"\t"+fix.Text(value), want)
	}
	for _, value := range []int64{0, 1, -1, 999999, 1000000, math.MaxInt64, math.MinInt64} {
		check(t, "a "+fix.Text(value), api.Line{Kind: api.LineSample, Metric: "a", Name: "a", Value: value})
	}
}

// P9.3: a line is the same, whatever was read ahead of it.

func TestLinesKeepNothing(t *testing.T) {
	lines := []string{"a{b=\"c\"} 1 7", "# HELP a text", "x y z", "# TYPE a gauge", "a 2", "a{1=\"\"} 1", "", "a 1 -1", "# words", "a{b=\"\\"}
	for _, ahead := range lines {
		for _, s := range lines {
			lex.Line(ahead)
			checkReckoned(t, s)
		}
	}
}
