package group_test

import (
	"fmt"
	"math/big"
	"slices"
	"strings"
	"testing"

	"odometer/api"
	"odometer/group"
	"odometer/label"
)

// P19.1, P19.3: records by the chapter's words

// reckonKey is a series' group, made anew of its labels.
func reckonKey(by []string, name string) string {
	if by == nil {
		return name
	}
	metric, all, err := label.Parse(name)
	if err != api.OK {
		return ""
	}
	var some []api.Label
	for _, x := range all {
		for _, word := range by {
			if word == x.Name {
				some = append(some, x)
				break
			}
		}
	}
	key, _ := label.Name(metric, some...)
	return key
}

// reckon are a window's records: group by group, all credits gone over for each, without bounds till the end.
func reckon(c api.Config, number int64, l []api.Credit) []api.Record {
	var keys []string
	for _, x := range l {
		keys = append(keys, reckonKey(c.By, x.Name))
	}
	names := slices.Clone(keys)
	slices.Sort(names)
	var want []api.Record
	for _, name := range slices.Compact(names) {
		sum, over := new(big.Int), false
		for i, x := range l {
			if keys[i] != name {
				continue
			}
			over = over || x.Over
			if x.Increase > 0 {
				sum.Add(sum, big.NewInt(x.Increase))
			}
		}
		if sum.Sign() == 0 && !over {
			continue
		}
		if !sum.IsInt64() {
			sum, over = big.NewInt(most), true
		}
		want = append(want, api.Record{Name: name, Window: number, Increase: sum.Int64(), Rate: reckonRate(sum.Int64(), c.Window), Over: over})
	}
	return want
}

// checkReckoned holds records to what is reckoned, and to what the chapter says of all records.
func checkReckoned(t *testing.T, c api.Config, number int64, l []api.Credit) {
	t.Helper()
	were := slices.Clone(l)
	got, want := group.Records(c, number, l), reckon(c, number, l)
	if !slices.Equal(got, want) {
		t.Errorf("by %q, length %d, of %v: %v, want %v", c.By, c.Window, l, got, want)
	}
	if again := group.Records(c, number, l); !slices.Equal(again, got) || !slices.Equal(l, were) {
		t.Errorf("by %q, of %v: again %v, of %v", c.By, were, again, l)
	}
	for i, x := range got {
		if i > 0 && label.Compare(got[i-1].Name, x.Name) >= 0 || x.Increase < 0 || x.Increase == 0 && !x.Over || x.Rate != group.Rate(x.Increase, c.Window) {
			t.Errorf("by %q, of %v: %v", c.By, l, got)
		}
	}
	for _, x := range l { // each credit is in one record, or has nothing
		key := group.Key(c.By, x.Name)
		is := slices.ContainsFunc(got, func(r api.Record) bool { return r.Name == key })
		if !is && (x.Increase > 0 || x.Over) || key != reckonKey(c.By, x.Name) {
			t.Errorf("by %q, of %v: %v has no record in %v, or is of another group than %q", c.By, l, x, got, key)
		}
	}
}

// bys are what series are grouped by.
func bys() [][]string {
	return [][]string{nil, {}, {"j"}, {"k"}, {"j", "k"}, {"k", "j", "k"}, {"z"}, {"", "j", "1"}}
}

// All lists of three credits at most.
func TestShortLists(t *testing.T) {
	var kinds []api.Credit
	for _, name := range []string{"a", `a{j="1"}`, `a{j="1",k="1"}`, `b{k="1"}`, "", "x y"} {
		for _, increase := range []int64{least, -1, 0, 1, most - 1, most} {
			kinds = append(kinds, credit(name, increase))
		}
		kinds = append(kinds, over(name, -1), over(name, 0), over(name, most))
	}
	for _, by := range [][]string{nil, {}, {"j"}, {"k", "j"}} {
		c := api.Config{By: by, Window: 2000}
		checkReckoned(t, c, 0, nil)
		for i, x := range kinds {
			checkReckoned(t, c, 1, credits(x))
			for k, y := range kinds {
				checkReckoned(t, c, -1, credits(x, y))
				for n := (i + k) % 5; n < len(kinds); n += 5 {
					checkReckoned(t, c, 2, credits(x, y, kinds[n]))
				}
				if t.Failed() {
					t.FailNow()
				}
			}
		}
	}
}

// sequence gives numbers below others, the same in each run.
func sequence() func(below int) int {
	state := uint64(1)
	return func(below int) int {
		state = state*6364136223846793005 + 1442695040888963407
		return int(state>>33) % below
	}
}

// Long lists of all kinds, shuffled: the records are the same.
func TestShuffled(t *testing.T) {
	next := sequence()
	increases := []int64{least, -5, -1, 0, 0, 1, 2, 1000, 12345678, most / 2, most - 1, most}
	for range 1500 {
		c := api.Config{By: bys()[next(len(bys()))], Window: []int64{-1, 0, 1, 999, 1000, 10000, api.MaxInterval}[next(7)]}
		var l []api.Credit
		highest := 1 + next(len(increases)) // not all are beyond 64 bits
		for range next(30) {
			name := []string{"a", "b", "a_b", "A", "x y", ""}[next(6)]
			if labels := next(4); labels > 0 && label.IsMetric(name) {
				name, _ = label.Name(name, []api.Label{{Name: "j", Value: fmt.Sprint(next(3))}, {Name: "k", Value: "\"\\"[next(2):]}, {Name: "l"}}[:labels]...)
			}
			x := credit(name, increases[next(highest)])
			x.Over = next(20) == 0
			l = append(l, x)
		}
		number := int64(next(100)) - 50
		checkReckoned(t, c, number, l)
		want := group.Records(c, number, l)
		for range 5 {
			for i := range l {
				k := next(i + 1)
				l[i], l[k] = l[k], l[i]
			}
			if got := group.Records(c, number, l); !slices.EqualFunc(got, want, group.SameRecord) {
				t.Errorf("by %q, of %v: %v, want %v", c.By, l, got, want)
			}
		}
		if t.Failed() {
			t.FailNow()
		}
	}
}

// As many as there may be, and more.
func TestMany(t *testing.T) {
	const many = 30000
	var l []api.Credit
	for i := range many {
		n := i * 7919 % many
		l = append(l, credit(fmt.Sprintf(`a{j="%05d",k="%d"}`, n/3, n%3), int64(n)))
	}
	got := of(words("j"), l)
	if len(got) != many/3 {
		t.Fatalf("%d records", len(got))
	}
	for i, x := range got {
		if x != record(fmt.Sprintf(`a{j="%05d"}`, i), int64(9*i+3)) {
			t.Fatalf("%d is %v", i, x)
		}
	}
	if got := of(none(), l); len(got) != 1 || got[0] != record("a", many*(many-1)/2) {
		t.Errorf("%d records, the first of them %v", len(got), got[:min(len(got), 1)])
	}
	if got := of(nil, l); len(got) != many-1 || !slices.IsSortedFunc(got, func(a, b api.Record) int { return strings.Compare(a.Name, b.Name) }) { // one has nothing
		t.Errorf("%d records, or they do not rise", len(got))
	}
}
