package label_test

import (
	"fmt"
	"slices"
	"strings"
	"testing"

	"odometer/api"
	"odometer/label"
)

// P3.2

func checkWith(t *testing.T, want string, wrong api.Errno, name string, l ...api.Label) {
	t.Helper()
	as := slices.Clone(l)
	if s, e := label.With(name, l...); s != want || e != wrong {
		t.Errorf("With(%.200q, %.200q) = %.200q, %v, want %.200q, %v", name, l, s, e, want, wrong)
	}
	if !slices.Equal(l, as) {
		t.Errorf("With(%q) changed %q to %q", name, as, l)
	}
}

func TestWith(t *testing.T) {
	b, c, d := api.Label{Name: "b", Value: "1"}, api.Label{Name: "c", Value: "\\\n\""}, api.Label{Name: "d"}
	checkWith(t, `up`, api.OK, `up`)
	checkWith(t, `up{b="1"}`, api.OK, `up{b="1"}`)
	checkWith(t, `up{b="1"}`, api.OK, `up`, b)
	checkWith(t, `up{c="\\\n\""}`, api.OK, `up`, c)
	checkWith(t, `a{b="1",c="\\\n\"",d=""}`, api.OK, `a{c="\\\n\""}`, b, d)
	checkWith(t, `a{b="1",c="\\\n\"",d=""}`, api.OK, `a{c="\\\n\""}`, d, b)
	checkWith(t, `a{b="1",c="\\\n\"",d=""}`, api.OK, `a{b="1",d=""}`, c)
	checkWith(t, `a{b="1",c="\\\n\"",d=""}`, api.OK, `a`, d, c, b)
	checkWith(t, `a{B="2",b="1"}`, api.OK, `a{B="2"}`, b)
}

func TestWithWhatIsWrong(t *testing.T) {
	b := api.Label{Name: "b", Value: "1"}
	for _, s := range noNames() {
		checkWith(t, "", api.ErrLabel, s)
		checkWith(t, "", api.ErrLabel, s, api.Label{Name: "z"})
	}
	// a label that is there already, whatever its value is
	checkWith(t, "", api.ErrLabel, `a{b="1"}`, b)
	checkWith(t, "", api.ErrLabel, `a{b="2"}`, b)
	checkWith(t, "", api.ErrLabel, `a{a="",b="",c=""}`, b)
	checkWith(t, "", api.ErrLabel, `a{b=""}`, api.Label{Name: "c"}, b)
	checkWith(t, "", api.ErrLabel, `a`, b, b)
	checkWith(t, "", api.ErrLabel, `a{c=""}`, b, api.Label{Name: "d"}, api.Label{Name: "b"})
	// what makes no series
	checkWith(t, "", api.ErrLabel, `a`, api.Label{})
	checkWith(t, "", api.ErrLabel, `a{b="1"}`, api.Label{Name: "1"})
	checkWith(t, "", api.ErrLabel, `a{b="1"}`, api.Label{Name: "c:"})
	checkWith(t, "", api.ErrLabel, `a{b="1"}`, api.Label{Name: strings.Repeat("c", 201)})
	checkWith(t, "", api.ErrLabel, `a{b="1"}`, api.Label{Name: "c", Value: strings.Repeat("v", 1025)})
}

func TestWithAsManyAsMayBe(t *testing.T) {
	l := labels(40)
	for there := range 17 {
		name, _ := label.Name("a", l[:there]...)
		for more := range 20 {
			want, wrong := label.Name("a", l[:there+more]...)
			if (wrong == api.OK) != (there+more <= 16) {
				t.Fatalf("%d labels: %v", there+more, wrong)
			}
			checkWith(t, want, wrong, name, l[there:there+more]...)
		}
	}
}

func TestGet(t *testing.T) {
	const name = `up{B="2",at="",b="x\\\"\n",bb="4"}`
	for of, want := range map[string]string{"B": "2", "at": "", "b": "x\\\"\n", "bb": "4"} {
		if v, is := label.Get(name, of); v != want || !is {
			t.Errorf("Get(%q, %q) = %q, %v, want %q", name, of, v, is, want)
		}
	}
	for _, of := range []string{"", "up", "a", "A", "AT", "bbb", "c", "__name__", `at=""`, "b ", ":", "\xff"} {
		if v, is := label.Get(name, of); v != "" || is {
			t.Errorf("Get(%q, %q) = %q, %v", name, of, v, is)
		}
		if v, is := label.Get("up", of); v != "" || is {
			t.Errorf("Get(up, %q) = %q, %v", of, v, is)
		}
	}
	for _, s := range append(noNames(), `a{b="1",b="2"}`, `a{b="1",c="2"`, `a{b="1",c="2",a="3"}`) {
		for _, of := range []string{"", "a", "b", "c", "d", "1"} {
			if v, is := label.Get(s, of); v != "" || is {
				t.Errorf("Get(%q, %q) = %q, %v", s, of, v, is)
			}
		}
	}
}

func TestOnly(t *testing.T) {
	for _, x := range []struct {
		name string
		by   []string
		want string
	}{
		{`up`, nil, `up`},
		{`up`, []string{"a", "up"}, `up`},
		{`a:b{b="1",c="2",d="3"}`, nil, `a:b`},
		{`a:b{b="1",c="2",d="3"}`, []string{}, `a:b`},
		{`a:b{b="1",c="2",d="3"}`, []string{"x", "", "1", "B", "a:b", `b="1"`, "\xff"}, `a:b`},
		{`a:b{b="1",c="2",d="3"}`, []string{"b"}, `a:b{b="1"}`},
		{`a:b{b="1",c="2",d="3"}`, []string{"c"}, `a:b{c="2"}`},
		{`a:b{b="1",c="2",d="3"}`, []string{"d"}, `a:b{d="3"}`},
		{`a:b{b="1",c="2",d="3"}`, []string{"d", "b"}, `a:b{b="1",d="3"}`},
		{`a:b{b="1",c="2",d="3"}`, []string{"b", "d", "b", "x", "d"}, `a:b{b="1",d="3"}`},
		{`a:b{b="1",c="2",d="3"}`, []string{"d", "c", "b"}, `a:b{b="1",c="2",d="3"}`},
		{`a{b="\\\"\n",c=""}`, []string{"b"}, `a{b="\\\"\n"}`},
		{`a{b="\\\"\n",c=""}`, []string{"c"}, `a{c=""}`},
	} {
		as := slices.Clone(x.by)
		if s := label.Only(x.name, x.by); s != x.want {
			t.Errorf("Only(%q, %q) = %q, want %q", x.name, x.by, s, x.want)
		}
		if !slices.Equal(as, x.by) {
			t.Errorf("Only changed %q to %q", as, x.by)
		}
	}
	for _, s := range noNames() {
		for _, by := range [][]string{nil, {"a", "b", "c", "d"}} {
			if x := label.Only(s, by); x != "" {
				t.Errorf("Only(%q, %q) = %q", s, by, x)
			}
		}
	}
}

// Each choice of a series' labels: Only, what is left and With make the whole again.
func TestOnlyAndWith(t *testing.T) {
	l := labels(6)
	whole, _ := label.Name("m", l...)
	for choice := range 1 << len(l) {
		var by []string
		var in, out []api.Label
		for i, x := range l {
			if choice>>i&1 == 1 {
				by, in = append(by, x.Name), append(in, x)
			} else {
				out = append(out, x)
			}
		}
		part := label.Only(whole, by)
		checkName(t, part, "m", in...)
		checkWith(t, whole, api.OK, part, out...)
	}
}

// P3.3

func TestCompare(t *testing.T) {
	rising := []string{"", "\x00", "\x00\x00", "\n", "1", "A", "Z", "_", "a", "a\x00", "a1", "a:", "aa", `a{b="1"}`, `a{b="10"}`, `a{b="2"}`, "b", "é", "\xff", "\xff\x00"}
	for i, a := range rising {
		for k, b := range rising {
			want := 0
			if i < k {
				want = -1
			} else if i > k {
				want = 1
			}
			if c := label.Compare(a, b); c != want {
				t.Errorf("Compare(%q, %q) = %d, want %d", a, b, c, want)
			}
		}
	}
}

func checkWord(t *testing.T, s string) {
	t.Helper()
	if is, want := label.IsMetric(s), wordText.MatchString(strings.ReplaceAll(s, ":", "_")) && len(s) <= 200; is != want {
		t.Errorf("IsMetric(%.210q) = %v", s, is)
	}
	if is, want := label.IsWord(s), wordText.MatchString(s) && len(s) <= 200; is != want {
		t.Errorf("IsWord(%.210q) = %v", s, is)
	}
}

func TestWords(t *testing.T) {
	for s, want := range map[string][2]bool{ // a word, a metric's name
		"a": {true, true}, "Z": {true, true}, "_": {true, true}, "a_9Z": {true, true}, "__name__": {true, true},
		":": {false, true}, "a:b": {false, true}, ":9": {false, true}, "_:": {false, true},
		"": {}, "9": {}, "9a": {}, "a b": {}, "a-": {}, "a.b": {}, "é": {}, "aé": {}, "a\n": {}, "\xff": {}, "a\x00": {}, "a{": {}, "a=": {},
	} {
		if word, metric := label.IsWord(s), label.IsMetric(s); word != want[0] || metric != want[1] {
			t.Errorf("%q: a word %v, a metric's name %v, want %v", s, word, metric, want)
		}
	}
	for c := range 256 {
		for _, ahead := range []string{"", "a", "_:", "9"} {
			for _, behind := range []string{"", "a", "9"} {
				checkWord(t, ahead+string([]byte{byte(c)})+behind)
			}
		}
	}
	for _, size := range []int{1, 199, 200, 201, 202, 456, 1 << 20} {
		for _, s := range []string{"a", "_", ":", "9"} {
			checkWord(t, "a"+strings.Repeat(s, size-1))
			checkWord(t, ":"+strings.Repeat(s, size-1))
		}
	}
}

func checkEscape(t *testing.T, value string) {
	t.Helper()
	s := label.Escape(value)
	if want := escape.Replace(value); s != want {
		t.Errorf("Escape(%.200q) = %.200q, want %.200q", value, s, want)
	}
	if v, is := label.Unescape(s); v != value || !is {
		t.Errorf("Unescape(%.200q) = %.200q, %v, want %.200q", s, v, is, value)
	}
}

func checkUnescape(t *testing.T, s string) {
	t.Helper()
	want, ok := "", valueText.MatchString(s)
	if ok {
		want = unescape.Replace(s)
	}
	if v, is := label.Unescape(s); v != want || is != ok {
		t.Errorf("Unescape(%.200q) = %.200q, %v, want %.200q, %v", s, v, is, want, ok)
	}
	if ok && label.Escape(want) != s {
		t.Errorf("Escape(%.200q) = %.200q, want %.200q", want, label.Escape(want), s)
	}
}

func TestEscape(t *testing.T) {
	for value, want := range map[string]string{
		"": "", "a": "a", "n": "n", `\`: `\\`, `"`: `\"`, "\n": `\n`, `\n`: `\\n`, "\\\n": `\\\n`, `a"b`: `a\"b`, "\r\t\x00\xff é{},=": "\r\t\x00\xff é{},=",
	} {
		if s := label.Escape(value); s != want {
			t.Errorf("Escape(%q) = %q, want %q", value, s, want)
		}
		checkEscape(t, value)
	}
	for c := range 1 << 16 {
		checkEscape(t, string([]byte{byte(c), byte(c >> 8)}))
	}
	for _, size := range []int{1024, 1025, 1 << 20} { // no bound is told of what stands between '"' alone
		for _, s := range []string{"v", `\`, `"`, "\n"} {
			checkEscape(t, strings.Repeat(s, size))
		}
	}
}

func TestUnescape(t *testing.T) {
	for s, want := range map[string]string{"": "", "a": "a", "n": "n", `\\`: `\`, `\"`: `"`, `\n`: "\n", `\\n`: `\n`, `\\\n`: "\\\n", "\xff\x00": "\xff\x00"} {
		if v, is := label.Unescape(s); v != want || !is {
			t.Errorf("Unescape(%q) = %q, %v, want %q", s, v, is, want)
		}
	}
	for _, s := range []string{`\`, `\\\`, `"`, `a"`, `"a`, `a"b`, `\\"`, "\n", "a\nb", "\\\n", `\x`, `\N`, `\t`, `\ `, "\\\x00", "\\\xff", `a\`, `\n\`, `\n"`, `""`} {
		if v, is := label.Unescape(s); v != "" || is {
			t.Errorf("Unescape(%q) = %q, %v", s, v, is)
		}
	}
	for c := range 1 << 16 {
		b := []byte{byte(c), byte(c >> 8)}
		checkUnescape(t, string(b))
		checkUnescape(t, `\`+string(b))
		checkUnescape(t, string(b[:1])+`\`+string(b[1:]))
	}
	for _, s := range texts("an\\\"\n", 7) {
		checkUnescape(t, s)
	}
}

// P3.4

// series are unlike ones, with labels in no order.
func series(many int) map[string][]api.Label {
	next := sequence()
	words, values := []string{"a", "b", "A", "_", "ab", "a1"}, texts("ab\\\"\n,=}\xff", 2)
	all := map[string][]api.Label{}
	for range many {
		metric := []string{"a", "b", "a:b", ":"}[next(4)]
		var l []api.Label
		for _, at := range []int{0, 1, 2, 3, 4, 5} {
			if next(2) == 0 {
				l = slices.Insert(l, next(len(l)+1), api.Label{Name: words[at], Value: values[next(len(values))]})
			}
		}
		rising := slices.Clone(l)
		slices.SortFunc(rising, func(x, y api.Label) int { return strings.Compare(x.Name, y.Name) })
		all[fmt.Sprintf("%q %q", metric, rising)] = append([]api.Label{{Name: metric}}, l...)
	}
	return all
}

func TestASeriesHasOneName(t *testing.T) {
	of := map[string]string{}
	for told, x := range series(50000) {
		name, e := label.Name(x[0].Name, x[1:]...)
		if e != api.OK {
			t.Fatalf("Name(%s): %v", told, e)
		}
		if other, is := of[name]; is {
			t.Errorf("%q is the name of %s, and of %s", name, told, other)
		}
		of[name] = told
		metric, l, e := label.Parse(name)
		if again := fmt.Sprintf("%q %q", metric, l); again != told || e != api.OK {
			t.Errorf("%s is named %q, which is read as %s, %v", told, name, again, e)
		}
		if again, e := label.With(metric, reversed(l)...); again != name || e != api.OK {
			t.Errorf("%q is made again as %q, %v", name, again, e)
		}
		for _, y := range l {
			if v, is := label.Get(name, y.Name); v != y.Value || !is {
				t.Errorf("Get(%q, %q) = %q, %v", name, y.Name, v, is)
			}
		}
	}
}

func TestBytesDoNoHarm(t *testing.T) {
	next := sequence()
	parts := []string{"a", "b", "1", "c:", "{", "}", "=\"", "\"", ",", "\",", "\"}", "\\", "\\n", "\n", "\xff", "a=\"", "\\\\", `b="1"`}
	for range 200000 {
		s := ""
		for range next(12) {
			s += parts[next(len(parts))]
		}
		checkParse(t, s)
		checkParse(t, "m{"+s+"}")
		checkUnescape(t, s)
		if s := "a{" + s + "}"; !label.May(s) {
			checkWith(t, "", api.ErrLabel, s)
		}
	}
}
