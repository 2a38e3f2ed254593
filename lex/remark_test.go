package lex_test

import (
	"fmt"
	"strings"
	"testing"

	"odometer/api"
	"odometer/lex"
)

// show is a line, all of it.
func show(x api.Line) string { return fmt.Sprintf("%+v", x) }

// gaps are blanks, of either kind, of which there is one at least.
func gaps() []string { return []string{" ", "\t", "  ", " \t ", strings.Repeat(" \t", 500)} }

// names are metrics' names.
func names() []string {
	return []string{"a", "Z", "_", ":", "a:b", "up_9", "HELP", "counter", strings.Repeat("n", 200)}
}

// noNames are texts that are no metric's name.
func noNames() []string {
	return []string{"9", "9a", "-a", "a-b", "a.b", "{}", "\"a\"", "é", "a\x00", "a\r", "#", "a{}", "a{b=\"c\"}", strings.Repeat("n", 201)}
}

// P9.2
func TestBlank(t *testing.T) {
	for c := range 256 {
		if is := lex.Blank(byte(c)); is != (c == 32 || c == 9) {
			t.Errorf("Blank(%d) = %v", c, is)
		}
	}
}

// P9.1: a line that has a byte 10

func TestByteTen(t *testing.T) {
	for _, s := range []string{"", "  ", "#", "# HELP a text", "# TYPE a gauge", "a 1", "a{b=\"c\"} 1 7", "a{b=\"1\",b=\"1\"} 1", "a x", "a NaN", "a 1 x", "a 1 -1", "9"} {
		for i := range len(s) + 1 {
			checkWrong(t, s[:i]+"\n"+s[i:], api.ErrLine)
		}
	}
}

// P9.1: lines that tell nothing

func TestEmpty(t *testing.T) {
	check(t, "", api.Line{Kind: api.LineEmpty})
	for _, gap := range gaps() {
		check(t, gap, api.Line{Kind: api.LineEmpty})
	}
	for _, s := range []string{"\r", " \r", "\x00", "\v", "\f", "\u00a0", "\u2003"} {
		checkWrong(t, s, api.ErrLine)
	}
}

func TestComments(t *testing.T) {
	for _, s := range []string{
		"#", "##", "# ", "#\t", "#  \t ", "# some words", "#words", "#\x00", "#\xff", "#\r", "# \"", "# \\", "# \\x", "#{", "# a 1", "#1",
		"# help a", "# Help a", "# HELPa", "# HELPFUL a", "# HELP_ a", "# HELP\r", "# HELP\x00a", "# HEL", "# H ELP a", "# -HELP a", "##HELP a", "# #HELP a", "# \\HELP", "# x HELP a", "# HELP{} a", "# HELP: a", "# HELP\u00a0a",
		"# type a gauge", "# Type a gauge", "# TYPEa gauge", "# TYPES a gauge", "# TYPE=a gauge", "# TYP", "# TYPE\r a gauge", "##TYPE a gauge", "# a TYPE a gauge", "# HELPTYPE a", "# UNIT a b", "# EOF",
	} {
		for _, ahead := range append(gaps(), "") {
			check(t, ahead+s, api.Line{Kind: api.LineComment})
			check(t, ahead+s+" behind", api.Line{Kind: api.LineComment})
		}
	}
}

// P9.1: HELP

// checkHelp holds Line to a help, whichever blanks stand where they may.
func checkHelp(t *testing.T, metric, told, text string) {
	t.Helper()
	want := api.Line{Kind: api.LineHelp, Metric: metric, Text: text}
	for _, gap := range gaps() {
		check(t, "#HELP"+gap+metric+gap+told, want)
		check(t, "#"+gap+"HELP "+metric+" "+told, want)
		check(t, gap+"# HELP "+metric+" "+told, want)
	}
}

func TestHelp(t *testing.T) {
	for _, metric := range names() {
		checkHelp(t, metric, "", "")
		checkHelp(t, metric, "The text.", "The text.")
		for _, ahead := range append(gaps(), "") {
			check(t, ahead+"# HELP "+metric, api.Line{Kind: api.LineHelp, Metric: metric})
		}
	}
	for told, text := range map[string]string{
		"a": "a", "# HELP a b": "# HELP a b", "1": "1", "{}": "{}", "=": "=", "\"a\"": "\"a\"", "'": "'", "a  b\tc": "a  b\tc", "\x00\xff\r": "\x00\xff\r", "é\u00a0": "é\u00a0",
		"a ": "a ", "a\t": "a\t", "a \t  ": "a \t  ", "a" + strings.Repeat(" ", 1000): "a" + strings.Repeat(" ", 1000),
		`\\`: `\`, `\n`: "\n", `\\n`: `\n`, `\\\n`: "\\\n", `\\\\`: `\\`, `\n\n`: "\n\n", `a\nb\\c`: "a\nb\\c", `\n `: "\n ", ` \n`: "\n", `n\\`: `n\`, `\\"`: `\"`, `a \n b`: "a \n b",
	} {
		checkHelp(t, "a:b", told, text)
	}
}

func TestNoHelp(t *testing.T) {
	for _, s := range noNames() {
		checkWrong(t, "# HELP "+s, api.ErrLine)
		checkWrong(t, "#HELP\t"+s+" text", api.ErrLine)
	}
	for _, s := range []string{"# HELP", "#HELP", " # HELP ", "#HELP\t \t", "# HELP \\n", "# HELP a\\n", "# HELP a\\\\", "# HELP a\"text\"", "# HELP a=b", "# HELP a,b"} {
		checkWrong(t, s, api.ErrLine)
	}
}

func TestBackslashesOfHelp(t *testing.T) {
	for c := range 256 {
		told := `\` + string([]byte{byte(c)})
		for _, ahead := range []string{"", "x", `\\`, `\n`, "a  "} {
			for _, behind := range []string{"", "x", " ", `\\`, `\n`, "n", "\""} {
				s := "# HELP a " + ahead + told + behind
				switch c {
				case '\\', 'n':
					check(t, s, api.Line{Kind: api.LineHelp, Metric: "a", Text: unescapes.Replace(strings.ReplaceAll(ahead+told+behind, `"`, `\"`))})
				default:
					checkWrong(t, s, api.ErrLine)
				}
			}
		}
	}
	for _, told := range []string{`\`, `a\`, `\\\`, `\n\`, `a \`, `\ `, `\"`, `\t`, `\N`} {
		checkWrong(t, "# HELP a "+told, api.ErrLine)
	}
}

// P9.1: TYPE

func TestType(t *testing.T) {
	for _, word := range []string{"counter", "gauge", "histogram", "summary", "untyped"} {
		for _, metric := range names() {
			want := api.Line{Kind: api.LineType, Metric: metric, Text: word}
			check(t, "# TYPE "+metric+" "+word, want)
			check(t, "#TYPE "+metric+" "+word, want)
			for _, gap := range gaps() {
				check(t, gap+"#TYPE "+metric+" "+word, want)
				check(t, "#"+gap+"TYPE "+metric+" "+word, want)
				check(t, "#TYPE"+gap+metric+" "+word, want)
				check(t, "#TYPE "+metric+gap+word, want)
				check(t, "#TYPE "+metric+" "+word+gap, want)
			}
		}
		for _, s := range noNames() {
			checkWrong(t, "# TYPE "+s+" "+word, api.ErrLine)
		}
		for _, s := range []string{
			"# TYPE " + word, "# TYPE a" + word, "# TYPE a " + word + " x", "# TYPE a " + word + " " + word, "# TYPE a " + word + "s", "# TYPE a " + word[1:], "# TYPE a " + word[:len(word)-1], "# TYPE a " + strings.ToUpper(word), "# TYPE a " + word + "\r", "# TYPE a " + word + "\x00",
			"# TYPE a " + word + " 1", "# TYPE a " + word + " #", "# TYPE a \"" + word + "\"", "# TYPE a{} " + word, "# TYPE a\"" + word, "# TYPE a-" + word, "# TYPE " + word + " a", "# TYPE a a " + word, "# TYPE a {} " + word,
		} {
			checkWrong(t, s, api.ErrLine)
		}
	}
	for _, s := range []string{"# TYPE", "#TYPE", "# TYPE ", "# TYPE a", "# TYPE a ", "# TYPE a\t\t", "# TYPE a number", "# TYPE a info", "# TYPE a stateset", "# TYPE a unknown", "# TYPE a gaugehistogram", "# TYPE a _", "# TYPE a 0", "# TYPE a \\n"} {
		checkWrong(t, s, api.ErrLine)
	}
}

// P9.3: many bytes end, too.

func TestManyBytes(t *testing.T) {
	const many = 1 << 21
	for _, c := range []string{" ", "\t", "a", "9", "#", "{", "\"", "\\", ",", "=", "\x00"} {
		s := strings.Repeat(c, many)
		for _, ahead := range []string{"", "#", "# HELP ", "# HELP a ", "# TYPE ", "# TYPE a ", "# TYPE a gauge ", "a", "a{", "a{b", "a{b=", "a{b=\"", "a{b=\"c\"", "a{b=\"c\",", "a{}", "a ", "a 1", "a 1 ", "a 1 1"} {
			for _, behind := range []string{"", "\"} 1", " 1"} {
				_, e := lex.Line(ahead + s + behind)
				if e != api.OK && e != api.ErrLine && e != api.ErrLabel && e != api.ErrNumber && e != api.ErrRange {
					t.Errorf("Line(%q, %q often, %q): %v", ahead, c, behind, e)
				}
			}
		}
	}
	check(t, "# HELP a "+strings.Repeat(`\\\n`, many), api.Line{Kind: api.LineHelp, Metric: "a", Text: strings.Repeat("\\\n", many)})
	checkWrong(t, "a{"+strings.Repeat("b=\"1\",", many)+"} 1", api.ErrLabel)
	checkWrong(t, "a{"+strings.Repeat("b=\"1\",", many)+",} 1", api.ErrLine)
}
