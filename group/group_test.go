package group_test

import (
	"fmt"
	"math"
	"slices"
	"strings"
	"testing"
	"unsafe"

	"odometer/api"
	"odometer/group"
	"odometer/label"
	"odometer/window"
)

const (
	most  = math.MaxInt64
	least = math.MinInt64
)

// credit is one of a series, over one that is marked.
func credit(name string, increase int64) api.Credit {
	return api.Credit{Name: name, Increase: increase}
}
func over(name string, increase int64) api.Credit {
	return api.Credit{Name: name, Increase: increase, Over: true}
}

// record is one of window 7, of length 1000, in which the rate is the increase; marked is one that is Over.
func record(name string, increase int64) api.Record {
	return api.Record{Name: name, Window: 7, Increase: increase, Rate: increase}
}
func marked(name string, increase int64) api.Record {
	return api.Record{Name: name, Window: 7, Increase: increase, Rate: increase, Over: true}
}

// words are what series are grouped by, nil if there are none; none is no words.
func words(l ...string) []string { return l }
func none() []string             { return []string{} }

// credits, records are lists of these.
func credits(l ...api.Credit) []api.Credit { return l }
func records(l ...api.Record) []api.Record { return l }

// of are the records of window 7, of length 1000.
func of(by []string, l []api.Credit) []api.Record {
	return group.Records(api.Config{By: by, Window: 1000}, 7, l)
}

// ways are all orders in which up to six credits can come; of more these, the other way about, and each one in turn ahead.
func ways(l []api.Credit) [][]api.Credit {
	if len(l) > 6 {
		back := slices.Clone(l)
		slices.Reverse(back)
		all := [][]api.Credit{l, back}
		for i := range l {
			all = append(all, slices.Concat(l[i:], l[:i]))
		}
		return all
	}
	if len(l) == 0 {
		return [][]api.Credit{nil, {}}
	}
	var all [][]api.Credit
	for i, x := range l {
		rest := slices.Delete(slices.Clone(l), i, i+1)
		for _, way := range ways(rest) {
			all = append(all, slices.Concat(credits(x), way))
		}
	}
	return all
}

// check holds the records of credits, in whichever order they come, to these.
func check(t *testing.T, by []string, l []api.Credit, want ...api.Record) {
	t.Helper()
	for _, way := range ways(l) {
		were, words := slices.Clone(way), slices.Clone(by)
		if got := of(by, way); !slices.Equal(got, want) {
			t.Fatalf("by %.99q, of %.300v: %.300v, want %.300v", by, way, got, want)
		}
		if !slices.Equal(way, were) || !slices.Equal(by, words) {
			t.Fatalf("by %.99q, of %.300v: what was handed in is %.99q, %.300v", words, were, by, way)
		}
	}
}

// P19.1: the chapter's example

func TestExample(t *testing.T) {
	l := credits(credit(`a{job="x",k="1"}`, 3), credit(`a{job="x",k="2"}`, 4), credit("b", 0))
	check(t, words("job"), l, record(`a{job="x"}`, 7))
	check(t, nil, l, record(`a{job="x",k="1"}`, 3), record(`a{job="x",k="2"}`, 4))
	check(t, none(), l, record("a", 7))
}

// P19.1: By

// series are series whose labels and metrics differ, of increases that no two sets of them have in common.
func series() []api.Credit {
	return credits(
		credit(`a{at="1",job="x",k="1"}`, 1),
		credit(`a{at="1",job="x",k="2"}`, 2),
		credit(`a{at="1",job="y",k="1"}`, 4),
		credit(`a{at="2",job="x"}`, 8),
		credit(`a{k="1"}`, 16),
		credit("a", 32),
		credit(`b{job="x"}`, 64),
		credit("b", 128),
		credit(`a{job=""}`, 256),
	)
}

func TestBy(t *testing.T) {
	all := series()
	check(t, nil, all,
		record("a", 32), record(`a{at="1",job="x",k="1"}`, 1), record(`a{at="1",job="x",k="2"}`, 2), record(`a{at="1",job="y",k="1"}`, 4),
		record(`a{at="2",job="x"}`, 8), record(`a{job=""}`, 256), record(`a{k="1"}`, 16), record("b", 128), record(`b{job="x"}`, 64))
	for _, by := range [][]string{{}, {"z"}, {"Job"}, {"jobs"}, {"jo"}, {""}, {"1"}, {"job "}, {"a:b", "\xff", "job=", `job="x"`, "{", "a", "b", "x"}, {strings.Repeat("j", 5000)}} {
		check(t, by, all, record("a", 319), record("b", 192)) // of no words, and of words that no series bears
	}
	job := records(record("a", 48), record(`a{job=""}`, 256), record(`a{job="x"}`, 11), record(`a{job="y"}`, 4), record("b", 128), record(`b{job="x"}`, 64))
	for _, by := range [][]string{{"job"}, {"job", "job"}, {"z", "job"}, {"job", "z"}, {"", "job", "\n", "job", "1"}} {
		check(t, by, all, job...)
	}
	two := records(record("a", 32), record(`a{job=""}`, 256), record(`a{job="x",k="1"}`, 1), record(`a{job="x",k="2"}`, 2), record(`a{job="x"}`, 8),
		record(`a{job="y",k="1"}`, 4), record(`a{k="1"}`, 16), record("b", 128), record(`b{job="x"}`, 64))
	for _, by := range [][]string{{"job", "k"}, {"k", "job"}, {"k", "job", "k"}, {"k", "k", "z", "job"}} {
		check(t, by, all, two...)
	}
	for _, by := range [][]string{{"at", "job", "k"}, {"k", "job", "at"}} { // all words that they bear
		check(t, by, all, of(nil, all)...)
	}
	check(t, words("at"), all, record("a", 304), record(`a{at="1"}`, 7), record(`a{at="2"}`, 8), record("b", 192))
	check(t, words("k"), all, record("a", 296), record(`a{k="1"}`, 21), record(`a{k="2"}`, 2), record("b", 192))
}

// Values with bytes that are told by others stay so.
func TestValuesStay(t *testing.T) {
	check(t, words("b"), credits(credit(`a{b="\\\"\n,}=",c="1"}`, 1), credit(`a{b="\\\"\n,}="}`, 2), credit(`a{b="\\\"\n,}",c="="}`, 4)),
		record(`a{b="\\\"\n,}"}`, 4), record(`a{b="\\\"\n,}="}`, 3))
}

// P19.1: credits

func TestCredits(t *testing.T) {
	for _, by := range [][]string{nil, none(), words("job"), words("z", "job", "k")} {
		check(t, by, nil)
		check(t, by, credits())
		check(t, by, credits(credit("a", 5)), record("a", 5))
		check(t, by, credits(over("a", most)), marked("a", most))
		check(t, by, credits(credit("a", 5), credit("a", 6), credit("a", 0), credit("a", 6)), record("a", 17)) // several of one series
		check(t, by, credits(credit("b", 5), credit("a", 6), credit("c", 7), credit("b", 8)), record("a", 6), record("b", 13), record("c", 7))
		check(t, by, credits(credit("b", 5), credit("B", 6), credit("a_b", 7), credit("a", 8), credit("a:b", 9), credit("_", 10)),
			record("B", 6), record("_", 10), record("a", 8), record("a:b", 9), record("a_b", 7), record("b", 5)) // as bytes stand
	}
	check(t, words("job"), credits(credit(`b{job="x",k="1"}`, 1), credit(`a{job="y"}`, 2), credit(`b{job="x"}`, 4), credit(`a{job="x"}`, 8), credit(`a{job="y",k="1"}`, 16)),
		record(`a{job="x"}`, 8), record(`a{job="y"}`, 18), record(`b{job="x"}`, 5))
}

// P19.1: increases

func TestIncreases(t *testing.T) {
	for _, x := range []struct {
		l    []int64
		want int64
		over bool
	}{
		{l: []int64{0}},
		{l: []int64{-1}},
		{l: []int64{least}},
		{l: []int64{0, -1, least, -most}},
		{l: []int64{1}, want: 1},
		{l: []int64{1, 1}, want: 2},
		{l: []int64{5, -1}, want: 5}, // what is below 0 takes nothing off
		{l: []int64{5, least}, want: 5},
		{l: []int64{-3, 5, -7, 6}, want: 11},
		{l: []int64{most}, want: most},
		{l: []int64{most, 0}, want: most},
		{l: []int64{most, -1}, want: most},
		{l: []int64{most, least}, want: most},
		{l: []int64{most - 1, 1}, want: most}, // just the greatest
		{l: []int64{most / 2, most/2 + 1}, want: most},
		{l: []int64{1, most - 3, 2, -5}, want: most},
		{l: []int64{most, 1}, want: most, over: true}, // one above it
		{l: []int64{most - 1, 2}, want: most, over: true},
		{l: []int64{most/2 + 1, most/2 + 1}, want: most, over: true},
		{l: []int64{most, 1, -1}, want: most, over: true},
		{l: []int64{most, 1, least}, want: most, over: true},
		{l: []int64{most, most}, want: most, over: true},
		{l: []int64{most, 1, most, 1, 0}, want: most, over: true},
	} {
		for _, by := range [][]string{nil, none(), words("b")} {
			one, several := credits(credit("c", 9)), credits(credit("c", 9))
			for i, n := range x.l {
				one = append(one, credit("a", n))
				several = append(several, credit(fmt.Sprintf(`a{k="%d"}`, i), n))
			}
			var want []api.Record
			if x.want > 0 {
				want = append(want, api.Record{Name: "a", Window: 7, Increase: x.want, Rate: x.want, Over: x.over})
			}
			want = append(want, record("c", 9)) // another one is not touched
			check(t, by, one, want...)
			if by != nil {
				check(t, by, several, want...)
			}
		}
	}
}

func TestOver(t *testing.T) {
	for _, by := range [][]string{nil, none(), words("k")} {
		check(t, by, credits(over("a", 0)), marked("a", 0))
		check(t, by, credits(over("a", -1)), marked("a", 0))
		check(t, by, credits(over("a", least)), marked("a", 0))
		check(t, by, credits(over("a", 1)), marked("a", 1))
		check(t, by, credits(over("a", most)), marked("a", most))
		check(t, by, credits(over("a", 0), credit("a", 0), credit("a", -1)), marked("a", 0))
		check(t, by, credits(over("a", -1), credit("a", 5)), marked("a", 5))
		check(t, by, credits(over("a", 0), credit("a", 5), credit("a", 6)), marked("a", 11))
		check(t, by, credits(over("a", most), credit("a", 0)), marked("a", most))
		check(t, by, credits(over("a", most), credit("a", 1), over("a", -1)), marked("a", most))
		check(t, by, credits(over("a", 3), over("a", 4)), marked("a", 7))
		check(t, by, credits(over("b", 0), credit("a", 5), credit("c", 0), credit("d", 6)), record("a", 5), marked("b", 0), record("d", 6)) // one's mark is its alone
	}
	check(t, none(), credits(over(`a{k="1"}`, 0), credit(`a{k="2"}`, 5), credit("b", 6)), marked("a", 5), record("b", 6))
	check(t, words("k"), credits(over(`a{j="1",k="1"}`, 0), credit(`a{k="1"}`, 5), credit(`a{k="2"}`, 6)), marked(`a{k="1"}`, 5), record(`a{k="2"}`, 6))
}

// A group in which nothing increased has no record, be it of many.
func TestNothing(t *testing.T) {
	for _, by := range [][]string{nil, none(), words("k")} {
		check(t, by, credits(credit("a", 0)))
		check(t, by, credits(credit("a", -1)))
		check(t, by, credits(credit("a", 0), credit(`a{k="1"}`, -1), credit(`a{k="2"}`, least), credit("b", 0), credit("", -1), credit("c d", 0)))
		check(t, by, credits(credit("a", 0), credit(`a{k="1"}`, -1), credit("b", 1), credit("c", 0)), record("b", 1))
	}
	check(t, none(), credits(credit("a", 0), over(`a{k="1"}`, -1), credit(`a{k="2"}`, least)), marked("a", 0))
	check(t, none(), credits(credit("a", 0), credit(`a{k="1"}`, -1), credit(`a{k="2"}`, 1)), record("a", 1))
}

// P19.1: what is no series' name

// strangers are no series' names, by rising bytes: those of series in another order, or otherwise told, too.
func strangers() []string {
	return []string{
		"",
		"\x00",
		" a",
		"1a",
		"a ",
		"a b",
		`a{b="1",b="1"}`,
		`a{b="1",}`,
		`a{b="1"`,
		`a{b="1"} `,
		`a{b="\a"}`,
		"a{b=\"\n\"}",
		`a{b=1}`,
		`a{c="1",b="1"}`,
		`a{}`,
		strings.Repeat("n", api.MaxName+1),
		`é`,
		"\xff",
	}
}

func TestStrangers(t *testing.T) {
	all := strangers()
	slices.Sort(all)
	var l []api.Credit
	var own []api.Record
	sum := int64(0)
	for i, name := range all {
		if label.May(name) {
			t.Fatalf("%q is a series' name", name)
		}
		n := int64(i)*int64(i) + 1
		l = append(l, credit(name, n), credit("a", 1))
		own = append(own, record(name, n))
		sum += n
		check(t, nil, credits(credit(name, n), credit(name, n)), record(name, 2*n)) // a group as it is
		for _, by := range [][]string{none(), words("b"), words("", "a", "b", "c", name)} {
			check(t, by, credits(credit(name, n)), record("", n)) // the group of no bytes
			check(t, by, credits(credit(name, n), credit(`a{b="1"}`, 0), over("c d", -1)), marked("", n))
		}
	}
	many := int64(len(all))
	at, _ := slices.BinarySearchFunc(own, "a", func(x api.Record, name string) int { return strings.Compare(x.Name, name) })
	check(t, nil, l, slices.Insert(own, at, record("a", many))...)
	for _, by := range [][]string{none(), words("b")} {
		check(t, by, l, record("", sum), record("a", many))
	}
}

// A series has one name: what tells it otherwise is none, and has no part in it.
func TestOneSeries(t *testing.T) {
	l := credits(credit(`a{b="1",c="2"}`, 1), credit(`a{c="2",b="1"}`, 2), credit(`a{b="1",c="2",}`, 4))
	check(t, nil, l, record(`a{b="1",c="2",}`, 4), record(`a{b="1",c="2"}`, 1), record(`a{c="2",b="1"}`, 2))
	check(t, none(), l, record("", 6), record("a", 1))
	check(t, words("b"), l, record("", 6), record(`a{b="1"}`, 1))
	check(t, words("c", "b"), l, record("", 6), record(`a{b="1",c="2"}`, 1))
}

// The greatest series there are.
func TestGreatSeries(t *testing.T) {
	var all []api.Label
	var by []string
	for i := range api.MaxLabels {
		name := fmt.Sprintf("%c%s", 'a'+i, strings.Repeat("n", api.MaxName-1))
		all = append(all, api.Label{Name: name, Value: strings.Repeat("\n", api.MaxValue)})
		by = append(by, name)
	}
	metric := strings.Repeat("m", api.MaxName)
	name, err := label.Name(metric, all...)
	if err != api.OK {
		t.Fatal(err)
	}
	check(t, by, credits(credit(name, 3), credit(name, 4)), record(name, 7))
	check(t, none(), credits(credit(name, 3), credit(metric, 4)), record(metric, 7))
	half, _ := label.Name(metric, all[8:]...)
	check(t, by[8:], credits(credit(name, 3), credit(half, 4)), record(half, 7))
}

// P19.1: windows and configurations

func TestWindows(t *testing.T) {
	l := credits(credit("b", 5), credit("a", 6))
	for _, number := range []int64{least, least + 1, -2, -1, 0, 1, 7, api.MaxTime, most - 1, most} {
		want := records(api.Record{Name: "a", Window: number, Increase: 6, Rate: 3}, api.Record{Name: "b", Window: number, Increase: 5, Rate: 2})
		if got := group.Records(api.Config{Window: 2000}, number, l); !slices.Equal(got, want) {
			t.Errorf("%v, want %v", got, want)
		}
	}
}

// The window's length makes the rate; nothing else of a configuration is of any matter, be it one that may not be.
func TestConfigs(t *testing.T) {
	l := credits(credit("b", most), credit("a", 6), over("a", 0))
	for _, x := range []struct{ length, low, high int64 }{
		{least, 6000, most},
		{-1, 6000, most},
		{0, 6000, most},
		{1, 6000, most},
		{2, 3000, most},
		{999, 6, most},
		{1000, 6, most},
		{1001, 5, 9214157878975800006},
		{6000, 1, 1537228672809129301},
		{6001, 0, 1536972510724008633},
		{api.MaxInterval, 0, 8589934591999},
		{most, 0, 1000},
	} {
		want := records(api.Record{Name: "a", Window: -4, Increase: 6, Rate: x.low, Over: true}, api.Record{Name: "b", Window: -4, Increase: most, Rate: x.high})
		for _, c := range []api.Config{
			{Window: x.length},
			{Window: x.length, Targets: []api.Target{{Job: "a"}}, Lateness: least, Series: -1, Windows: -1, Queue: -1, Conns: -1, Body: -1, Base: -1, Most: -1},
			{Window: x.length, By: words("b", "", "a"), Lateness: 10 * x.length, Series: 1, Windows: 1, Queue: 1, Conns: 1, Body: 1, Base: 1, Most: 1},
		} {
			if got := group.Records(c, -4, l); !slices.Equal(got, want) {
				t.Errorf("%+v: %v, want %v", c, got, want)
			}
		}
	}
}

// What windows tell is what is handed in.
func TestCreditsOfWindows(t *testing.T) {
	w, err := window.New(2000, 0, 4)
	if err != api.OK {
		t.Fatal(err)
	}
	for _, g := range []api.Gain{
		{Name: `a{job="x",k="1"}`, Time: 2000, Increase: 2500},
		{Name: `a{job="x",k="2"}`, Time: 3999, Increase: 2501},
		{Name: `a{job="x",k="1"}`, Time: 4000, Increase: most},
		{Name: `a{job="x",k="1"}`, Time: 5000, Increase: 1},
		{Name: "b", Time: 2500},
		{Name: "c", Time: 0},
	} {
		w.Add(g)
	}
	c := api.Config{Window: 2000, By: words("job")}
	for i, want := range [][]api.Record{
		nil,
		{{Name: `a{job="x"}`, Window: 1, Increase: 5001, Rate: 2500}},
		{{Name: `a{job="x"}`, Window: 2, Increase: most, Rate: most / 2, Over: true}},
	} {
		x := w.Open()[i]
		if got := group.Records(c, x.Number, x.Credits); !slices.Equal(got, want) {
			t.Errorf("%v: %v, want %v", x, got, want)
		}
	}
}

// P19.1: memory

// What is handed in is not kept, and what is answered is the caller's.
func TestMemory(t *testing.T) {
	for _, by := range [][]string{nil, none(), words("k")} {
		texts := []byte(`ba{k="1"}`)
		all := unsafe.String(&texts[0], len(texts)) // names that change once their bytes do
		l := credits(credit(all[:1], 5), credit(all[1:], 6), credit(all[1:2], 7))
		want := slices.Clone(of(by, credits(credit("b", 5), credit(`a{k="1"}`, 6), credit("a", 7))))
		got, key := of(by, l), group.Key(by, all[:1])
		copy(texts, "xyz")
		clear(l)
		if !slices.Equal(got, want) || key != "b" {
			t.Errorf("by %q: %v, want %v; %q", by, got, want, key)
		}
	}
	by := words("j", "k")
	l := credits(credit(`a{j="1",k="1"}`, 5), credit(`b{k="1"}`, 6))
	were := slices.Clone(l)
	first := of(by, l)
	for i := range first {
		first[i] = marked("q", 9)
	}
	clear(first[:cap(first)])
	if !slices.Equal(l, were) || !slices.Equal(by, words("j", "k")) {
		t.Errorf("%q, %v", by, l)
	}
	check(t, by, l, record(`a{j="1",k="1"}`, 5), record(`b{k="1"}`, 6))
	by[0] = "z" // a By of one call is of no matter for another one
	check(t, by, l, record(`a{k="1"}`, 5), record(`b{k="1"}`, 6))
}

// No text of an answer is that of another one, nor one that was handed in.
func TestTextsAreNew(t *testing.T) {
	name := strings.Clone("name")
	texts := []string{name}
	for _, by := range [][]string{nil, none(), words("k"), nil, none(), words("k")} {
		got := of(by, credits(credit(name, 5), credit("name", 5), credit(name, 6)))
		if len(got) != 1 {
			t.Fatalf("by %q: %v", by, got)
		}
		texts = append(texts, got[0].Name, group.Key(by, name), group.Key(by, name))
	}
	for i, a := range texts {
		for _, b := range texts[:i] {
			if a != b || unsafe.StringData(a) == unsafe.StringData(b) {
				t.Errorf("%q and %q are the same memory, or unlike", a, b)
			}
		}
	}
}
