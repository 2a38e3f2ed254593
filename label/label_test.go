package label_test

import (
	"slices"
	"strings"
	"testing"

	"odometer/api"
	"odometer/label"
)

func checkName(t *testing.T, want string, metric string, l ...api.Label) {
	t.Helper()
	if s, e := label.Name(metric, l...); s != want || e != api.OK {
		t.Errorf("Name(%.100q, %.200q) = %.200q, %v, want %.200q", metric, l, s, e, want)
	}
}

func checkNoName(t *testing.T, metric string, l ...api.Label) {
	t.Helper()
	if s, e := label.Name(metric, l...); s != "" || e != api.ErrLabel {
		t.Errorf("Name(%.100q, %.200q) = %.200q, %v, want no bytes, %v", metric, l, s, e, api.ErrLabel)
	}
}

// P3.1

func TestName(t *testing.T) {
	for _, x := range []struct {
		metric string
		l      []api.Label
		want   string
	}{
		{"up", nil, `up`},
		{"up", []api.Label{}, `up`},
		{":", nil, `:`},
		{"_", nil, `_`},
		{"a:b_C9:", nil, `a:b_C9:`},
		{"up", []api.Label{{Name: "job", Value: `a"b`}, {Name: "at"}}, `up{at="",job="a\"b"}`},
		{"up", []api.Label{{Name: "at"}, {Name: "job", Value: `a"b`}}, `up{at="",job="a\"b"}`},
		// by rising names, as their bytes are
		{"a", []api.Label{{Name: "b", Value: "1"}, {Name: "B", Value: "2"}, {Name: "_", Value: "3"}, {Name: "b_", Value: "4"}, {Name: "b0", Value: "5"}, {Name: "bA", Value: "6"}, {Name: "B9", Value: "7"}},
			`a{B="2",B9="7",_="3",b="1",b0="5",bA="6",b_="4"}`},
		{"a", []api.Label{{Name: "ab", Value: "1"}, {Name: "a", Value: "2"}, {Name: "abc", Value: "0"}}, `a{a="2",ab="1",abc="0"}`},
		// a value may have any bytes
		{"a", []api.Label{{Name: "b", Value: `\`}}, `a{b="\\"}`},
		{"a", []api.Label{{Name: "b", Value: "\n"}}, `a{b="\n"}`},
		{"a", []api.Label{{Name: "b", Value: `\n`}}, `a{b="\\n"}`},
		{"a", []api.Label{{Name: "b", Value: "\\\n\"n"}}, `a{b="\\\n\"n"}`},
		{"a", []api.Label{{Name: "b", Value: `{},=" `}}, `a{b="{},=\" "}`},
		{"a", []api.Label{{Name: "b", Value: "\x00\r\t\xff\x80é\u2028"}}, "a{b=\"\x00\r\t\xff\x80é\u2028\"}"},
		// names that are as others but for their case; a label named as the metric
		{"a", []api.Label{{Name: "a", Value: "a"}, {Name: "A", Value: "A"}}, `a{A="A",a="a"}`},
		{"a", []api.Label{{Name: "__name__", Value: "b"}}, `a{__name__="b"}`},
		{"a", []api.Label{{Name: "b", Value: "1"}, {Name: "c", Value: "1"}}, `a{b="1",c="1"}`},
	} {
		checkName(t, x.want, x.metric, x.l...)
	}
}

func TestNoName(t *testing.T) {
	for _, x := range []struct {
		metric string
		l      []api.Label
	}{
		{"", nil},
		{"1", nil},
		{"1a", nil},
		{"a b", nil},
		{"a-b", nil},
		{" a", nil},
		{"a\n", nil},
		{"é", nil},
		{"a\xff", nil},
		{"a\x00", nil},
		{"a{", nil},
		{"a{}", nil},
		{`a{b="c"}`, nil},
		{"", []api.Label{{Name: "b"}}},
		{"1", []api.Label{{Name: "b"}}},
		{"a", []api.Label{{}}},
		{"a", []api.Label{{Value: "b"}}},
		{"a", []api.Label{{Name: "1"}}},
		{"a", []api.Label{{Name: "b:"}}},
		{"a", []api.Label{{Name: ":"}}},
		{"a", []api.Label{{Name: "b c"}}},
		{"a", []api.Label{{Name: "b="}}},
		{"a", []api.Label{{Name: "é"}}},
		{"a", []api.Label{{Name: "b"}, {Name: "1"}}},
		{"a", []api.Label{{Name: "1"}, {Name: "b"}}},
		{"a", []api.Label{{Name: "b"}, {Name: ""}, {Name: "c"}}},
		// two of one name, whatever their values are
		{"a", []api.Label{{Name: "b"}, {Name: "b"}}},
		{"a", []api.Label{{Name: "b", Value: "1"}, {Name: "b", Value: "2"}}},
		{"a", []api.Label{{Name: "b", Value: "1"}, {Name: "c"}, {Name: "b", Value: "1"}}},
		{"a", []api.Label{{Name: "b"}, {Name: "c"}, {Name: "d"}, {Name: "c"}}},
	} {
		checkNoName(t, x.metric, x.l...)
	}
}

func TestNameInWhicheverOrder(t *testing.T) {
	l := []api.Label{{Name: "_x", Value: "1"}, {Name: "Z", Value: "\""}, {Name: "a"}, {Name: "a1", Value: "\n"}, {Name: "aa", Value: "\\"}}
	orders(l, func(l []api.Label) {
		as := slices.Clone(l)
		checkName(t, `m{Z="\"",_x="1",a="",a1="\n",aa="\\"}`, "m", l...)
		if !slices.Equal(l, as) {
			t.Errorf("what was handed in was changed: %q, %q", as, l)
		}
	})
	twice := []api.Label{{Name: "a", Value: "1"}, {Name: "b", Value: "2"}, {Name: "c", Value: "3"}, {Name: "b", Value: "4"}}
	orders(twice, func(l []api.Label) { checkNoName(t, "m", l...) })
}

func TestNameWithinLimits(t *testing.T) {
	long, value := strings.Repeat("a", 200), strings.Repeat("v", 1024)
	checkName(t, long, long)
	checkNoName(t, long+"a")
	checkName(t, "a{"+long+`=""}`, "a", api.Label{Name: long})
	checkNoName(t, "a", api.Label{Name: long + "a"})
	checkName(t, `a{b="`+value+`"}`, "a", api.Label{Name: "b", Value: value})
	checkNoName(t, "a", api.Label{Name: "b", Value: value + "v"})
	checkNoName(t, "a", api.Label{Name: "b"}, api.Label{Name: "c", Value: value + "v"}, api.Label{Name: "d"})
	// a value's bytes are counted, not its letters, nor the backslashes of its name
	checkName(t, `a{b="`+strings.Repeat("é", 512)+`"}`, "a", api.Label{Name: "b", Value: strings.Repeat("é", 512)})
	checkNoName(t, "a", api.Label{Name: "b", Value: strings.Repeat("é", 512) + "e"})
	checkNoName(t, "a", api.Label{Name: "b", Value: strings.Repeat("é", 1024)})
	for from, to := range map[string]string{`\`: `\\`, `"`: `\"`, "\n": `\n`} {
		checkName(t, `a{b="`+strings.Repeat(to, 1024)+`"}`, "a", api.Label{Name: "b", Value: strings.Repeat(from, 1024)})
		checkNoName(t, "a", api.Label{Name: "b", Value: strings.Repeat(from, 1025)})
	}
	for many := range 40 {
		l := labels(many)
		for _, l := range [][]api.Label{l, reversed(l)} {
			if s, e := label.Name("a", l...); (e == api.OK) != (many <= 16) || (s == "") != (many > 16) {
				t.Errorf("Name of %d labels = %q, %v", many, s, e)
			}
		}
	}
	checkNoName(t, "a", make([]api.Label, 100000)...)
}

func reversed(l []api.Label) []api.Label {
	l = slices.Clone(l)
	slices.Reverse(l)
	return l
}

func TestParse(t *testing.T) {
	for _, x := range []struct {
		name, metric string
		l            []api.Label
	}{
		{`up`, "up", nil},
		{`:`, ":", nil},
		{`_9:`, "_9:", nil},
		{`up{at="",job="a\"b"}`, "up", []api.Label{{Name: "at"}, {Name: "job", Value: `a"b`}}},
		{`a{B="2",_="3",b="1"}`, "a", []api.Label{{Name: "B", Value: "2"}, {Name: "_", Value: "3"}, {Name: "b", Value: "1"}}},
		{`a{b="\\n\n\\\"n"}`, "a", []api.Label{{Name: "b", Value: "\\n\n\\\"n"}}},
		{`a{b="{c=,}=\",d=\"\"}"}`, "a", []api.Label{{Name: "b", Value: `{c=,}=",d=""}`}}},
		{"a{b=\"\x00\r\xff\xc3 é\",c=\"\xc3\"}", "a", []api.Label{{Name: "b", Value: "\x00\r\xff\xc3 é"}, {Name: "c", Value: "\xc3"}}},
	} {
		metric, l, e := label.Parse(x.name)
		if metric != x.metric || !slices.Equal(l, x.l) || e != api.OK || !label.May(x.name) {
			t.Errorf("Parse(%q) = %q, %q, %v, want %q, %q", x.name, metric, l, e, x.metric, x.l)
		}
		checkParse(t, x.name)
	}
}

// noNames are texts that are no series' names.
func noNames() []string {
	return []string{
		``, ` `, `1a`, `a-b`, ` a`, `a `, "a\n", "a\x00", "é", "a\xff", "up down",
		`{`, `}`, `{}`, `{b="c"}`, `1{b="c"}`, ` a{b="c"}`, `a {b="c"}`, "a\n{b=\"c\"}",
		`a{`, `a}`, `a{}`, `a{{}`, `a{,}`, `a{b}`, `a{b=}`, `a{b="}`, `a{b=c}`, `a{b='c'}`, `a{="c"}`, `a{"c"}`, `a{b"c"}`, `a{b:"c"}`,
		`a{b="c"`, `a{b="c}`, `a{b="c\"}`, `a{b="c",}`, `a{,b="c"}`, `a{b="c",,d="e"}`, `a{b="c"d="e"}`, `a{b="c";d="e"}`, `a{b="c"}d="e"`,
		`a{b="c"} `, `a{b="c"}}`, `a{b="c"}{d="e"}`, `a{b="c"},`, `a{b="c" }`, `a{ b="c"}`, `a{b ="c"}`, `a{b= "c"}`, `a{b="c", d="e"}`, `a{b="c" ,d="e"}`,
		`a{1="c"}`, `a{b:="c"}`, `a{:="c"}`, `a{b-="c"}`, `a{b=="c"}`, `a{é="c"}`, `a{b="c",1="d"}`, `a{b="c",="d"}`,
		// labels' names do not rise
		`a{c="1",b="2"}`, `a{b="1",b="2"}`, `a{b="1",b="1"}`, `a{b="1",B="2"}`, `a{a="",c="",b=""}`, `a{b="",c="",b=""}`, `a{ab="",a=""}`,
		// no value's text
		`a{b="\x"}`, `a{b="\N"}`, `a{b="\t"}`, `a{b="\ "}`, `a{b="\0"}`, `a{b="\{"}`, `a{b="\`, `a{b="\"`, `a{b="\\\"}`, `a{b="\\\`, `a{b="""}`, `a{b="c"d"}`,
		"a{b=\"\n\"}", "a{b=\"\\\n\"}", "a{b=\"c\nd\"}", "a{b=\"\xff\\\xff\"}", `a{b="c",d="\x"}`, `a{b="\x",d="c"}`,
	}
}

func TestParseNoNames(t *testing.T) {
	for _, s := range noNames() {
		if metric, l, e := label.Parse(s); metric != "" || len(l) != 0 || e != api.ErrLabel {
			t.Errorf("Parse(%q) = %q, %q, %v", s, metric, l, e)
		}
		if label.May(s) {
			t.Errorf("May(%q)", s)
		}
		checkParse(t, s)
	}
}

func TestParseWithinLimits(t *testing.T) {
	long, value := strings.Repeat("a", 200), strings.Repeat("v", 1024)
	for _, name := range []string{
		long, long + "{b=\"\"}", "b{" + long + "=\"\"}", `a{b="` + value + `"}`, `a{b="` + strings.Repeat("é", 512) + `"}`,
		`a{b="` + strings.Repeat(`\n`, 1024) + `"}`, `a{b="` + strings.Repeat(`\"`, 1024) + `"}`, `a{b="` + strings.Repeat(`\\`, 1024) + `"}`,
	} {
		if !label.May(name) {
			t.Errorf("May(%.300q) is false", name)
		}
		checkParse(t, name)
	}
	for _, name := range []string{
		long + "a", long + "a{b=\"\"}", "b{" + long + "a=\"\"}", `a{b="` + value + `v"}`, `a{b="` + strings.Repeat("é", 512) + `e"}`,
		`a{b="` + strings.Repeat(`\n`, 1025) + `"}`, `a{b="` + strings.Repeat(`\"`, 1025) + `"}`, `a{b="` + strings.Repeat(`\\`, 1025) + `"}`,
		`a{a="",b="` + value + `v",c=""}`, strings.Repeat("a", 1<<20), "a{" + strings.Repeat("b", 1<<20), `a{b="` + strings.Repeat(`\\`, 1<<20),
	} {
		if label.May(name) {
			t.Errorf("May(%.300q...)", name)
		}
		checkParse(t, name)
	}
	for many := 1; many < 40; many++ {
		var parts []string
		for _, x := range labels(many) {
			parts = append(parts, x.Name+`="`+x.Value+`"`)
		}
		name := "a{" + strings.Join(parts, ",") + "}"
		if is := label.May(name); is != (many <= 16) {
			t.Errorf("May of %d labels: %v", many, is)
		}
		checkParse(t, name)
		checkParse(t, strings.TrimSuffix(name, "}"))
		checkParse(t, strings.Replace(name, "}", ",}", 1))
	}
}

// An answer is the caller's: what is done to it is not seen by another one.
func TestParseAnswersNewMemory(t *testing.T) {
	const name = `a{b="1",c="2"}`
	_, l, _ := label.Parse(name)
	clear(l)
	if _, l, e := label.Parse(name); len(l) != 2 || l[0] != (api.Label{Name: "b", Value: "1"}) || e != api.OK {
		t.Errorf("Parse(%q) = %q, %v, once its first answer was cleared", name, l, e)
	}
}

func TestAllShortTexts(t *testing.T) {
	for _, s := range texts("a1:{}=\",\\n\n", 5) {
		checkParse(t, s)
	}
	for _, s := range texts("aB1=\",\\n\n}", 4) {
		checkParse(t, `a{b="c`+s+`"}`)
		checkParse(t, `a{b="c"`+s+`b="c"}`)
		checkParse(t, `a{`+s+`="c"}`)
		checkParse(t, `a{b="c"}`+s)
	}
}

func TestNamesWithOneByteThatDiffers(t *testing.T) {
	const name = `ab:1{B="x\\\"\ny",a_1="",b="{,}"}`
	for at := range len(name) {
		checkParse(t, name[:at])
		checkParse(t, name[at:])
		checkParse(t, name[:at]+name[at+1:])
		for c := range 256 {
			one := string([]byte{byte(c)})
			checkParse(t, name[:at]+one+name[at+1:])
			checkParse(t, name[:at]+one+name[at:])
		}
	}
}
