package group_test

import (
	"math/big"
	"strings"
	"testing"

	"odometer/api"
	"odometer/group"
)

// P19.2: Rate

func TestRate(t *testing.T) {
	for _, x := range []struct{ increase, length, want int64 }{
		{0, 1, 0},
		{0, 1000, 0},
		{0, api.MaxInterval, 0},
		{0, 0, 0},
		{0, least, 0},
		{1, 1, 1000},
		{1, 2, 500},
		{1, 3, 333},
		{2, 3, 666},
		{3, 3, 1000},
		{7, 3, 2333},
		{1, 999, 1},
		{1, 1000, 1},
		{1, 1001, 0},
		{1, api.MaxInterval, 0},
		{1, most, 0},
		{1999, 2000, 999}, // just below, at and just above where it goes up by one
		{2000, 2000, 1000},
		{2001, 2000, 1000},
		{2002, 2000, 1001},
		{2, 3000, 0},
		{3, 3000, 1},
		{4, 3000, 1},
		{5, 3000, 1},
		{6, 3000, 2},
		{9, 10000, 0},
		{10, 10000, 1},
		{11, 10000, 1},
		{1073741, api.MaxInterval, 0},
		{1073742, api.MaxInterval, 1},
		{1073743, api.MaxInterval, 1},
		{1, 0, 1000}, // a length below 1 is as 1
		{1, -1, 1000},
		{5, -2000, 5000},
		{5, least, 5000},
		{most / 1000, 1, most - 807}, // the greatest that does not saturate, and one more
		{most/1000 + 1, 1, most},
		{most / 1000, 0, most - 807},
		{most/1000 + 1, -1, most},
		{most, 1, most},
		{most, 0, most},
		{most, least, most},
		{most, 999, most},
		{most, 1000, most},
		{most - 1, 1000, most - 1},
		{most - 9223372036854776, 999, most - 1}, // just below the greatest, at it, and above it
		{most - 9223372036854775, 999, most},
		{most - 9223372036854774, 999, most},
		{most, 1001, 9214157878975800006},
		{most, 2000, most / 2},
		{most, 10000, most / 10},
		{most, api.MaxInterval, 8589934591999},
		{most, api.MaxTime, 8191999},
		{most, most, 1000},
		{most - 1, most, 999},
		{-1, 1000, -1}, // rounded down, below 0 too
		{-1, 1001, -1},
		{-3, 2000, -2},
		{-1, 1, -1000},
		{least, 1000, least},
		{least, 999, least},
		{least, 2000, least / 2},
	} {
		if got := group.Rate(x.increase, x.length); got != x.want {
			t.Errorf("Rate(%d, %d) = %d, want %d", x.increase, x.length, got, x.want)
		}
	}
}

// reckonRate is a rate by the chapter's words, without bounds till the end.
func reckonRate(increase, length int64) int64 {
	n := new(big.Int).Mul(big.NewInt(increase), big.NewInt(1000))
	n.Div(n, big.NewInt(max(length, 1))) // rounds down: what it is divided by is above 0
	if !n.IsInt64() {
		return map[int]int64{-1: least, 1: most}[n.Sign()]
	}
	return n.Int64()
}

// Around each number at which something may turn.
func TestRateAround(t *testing.T) {
	var numbers []int64
	for _, n := range []int64{0, 1000, 1000000, most / 1000, most / 2, most - 3, least + 3, least / 2, least / 1000, api.MaxInterval, api.MaxTime, -1000} {
		for near := int64(-3); near <= 3; near++ {
			numbers = append(numbers, n+near)
		}
	}
	for _, increase := range numbers {
		for _, length := range numbers {
			if got, want := group.Rate(increase, length), reckonRate(increase, length); got != want {
				t.Fatalf("Rate(%d, %d) = %d, want %d", increase, length, got, want)
			}
		}
	}
	for increase := int64(-50); increase < 5000; increase++ {
		for length := int64(-3); length < 50; length++ {
			if got, want := group.Rate(increase, length*500+length), reckonRate(increase, length*500+length); got != want {
				t.Fatalf("Rate(%d, %d) = %d, want %d", increase, length*501, got, want)
			}
		}
	}
}

// P19.2: Key

func TestKey(t *testing.T) {
	for _, x := range []struct {
		by         []string
		name, want string
	}{
		{nil, "a", "a"},
		{nil, `a{b="1",c="2"}`, `a{b="1",c="2"}`},
		{nil, "", ""},
		{nil, "x y", "x y"},
		{nil, `a{c="2",b="1"}`, `a{c="2",b="1"}`},
		{nil, "\xff", "\xff"},
		{none(), "a", "a"},
		{none(), "a:b_2", "a:b_2"},
		{none(), `a{b="1",c="2"}`, "a"},
		{none(), `a{b=""}`, "a"},
		{none(), "", ""},
		{none(), "x y", ""},
		{none(), `a{c="2",b="1"}`, ""},
		{words("b"), "a", "a"},
		{words("b"), `a{b="1"}`, `a{b="1"}`},
		{words("b"), `a{b=""}`, `a{b=""}`},
		{words("b"), `a{c="2"}`, "a"},
		{words("b"), `a{b="1",c="2"}`, `a{b="1"}`},
		{words("c"), `a{b="1",c="2"}`, `a{c="2"}`},
		{words("c", "b"), `a{b="1",c="2"}`, `a{b="1",c="2"}`},
		{words("d", "b", "b"), `a{b="1",c="2",d="3"}`, `a{b="1",d="3"}`},
		{words("b", "c", "d", "e"), `a{c="2"}`, `a{c="2"}`},
		{words("a"), `a{b="1"}`, "a"},
		{words("B", "bb", "", "b ", `b="1"`, "\n"), `a{b="1"}`, "a"},
		{words("b"), `a{b="\\\"\n,}",c="2"}`, `a{b="\\\"\n,}"}`},
		{words("b"), "", ""},
		{words(""), "", ""},
		{words("x y"), "x y", ""},
		{words("b"), `a{b="1"`, ""},
		{words("b", "c"), `a{c="2",b="1"}`, ""},
		{words("b"), `a{b="1",b="1"}`, ""},
		{words("b"), `a{b="1",}`, ""},
		{words("b"), "a{}", ""},
		{words("b"), "1", ""},
		{words("b"), strings.Repeat("a", api.MaxName), strings.Repeat("a", api.MaxName)},
		{words("b"), strings.Repeat("a", api.MaxName+1), ""},
	} {
		were := append([]string(nil), x.by...)
		if got := group.Key(x.by, x.name); got != x.want {
			t.Errorf("Key(%q, %.300q) = %.300q, want %.300q", x.by, x.name, got, x.want)
		}
		for i := range were {
			if x.by[i] != were[i] {
				t.Errorf("Key(%q, %.300q): its words are %q", were, x.name, x.by)
			}
		}
		if got := group.Key(x.by, x.want); got != x.want { // a group's is its own
			t.Errorf("Key(%q, %.300q) = %.300q", x.by, x.want, got)
		}
		if got := of(x.by, credits(credit(x.name, 5))); len(got) != 1 || got[0] != record(x.want, 5) {
			t.Errorf("by %q, of %.300q: %.300v", x.by, x.name, got)
		}
	}
}

// P19.2: SameRecord

func TestSameRecord(t *testing.T) {
	unlike := []api.Record{
		{},
		{Name: "a"},
		{Window: 1},
		{Increase: 1},
		{Rate: 1},
		{Over: true},
		{Name: "a", Window: 7, Increase: 8, Rate: 9, Over: true},
		{Name: "b", Window: 7, Increase: 8, Rate: 9, Over: true}, // each field alone
		{Name: "A", Window: 7, Increase: 8, Rate: 9, Over: true},
		{Name: "a ", Window: 7, Increase: 8, Rate: 9, Over: true},
		{Name: "", Window: 7, Increase: 8, Rate: 9, Over: true},
		{Name: "a", Window: 8, Increase: 8, Rate: 9, Over: true},
		{Name: "a", Window: -7, Increase: 8, Rate: 9, Over: true},
		{Name: "a", Window: 7 + 1<<32, Increase: 8, Rate: 9, Over: true},
		{Name: "a", Window: 7, Increase: 9, Rate: 9, Over: true},
		{Name: "a", Window: 7, Increase: -8, Rate: 9, Over: true},
		{Name: "a", Window: 7, Increase: 8 + 1<<32, Rate: 9, Over: true},
		{Name: "a", Window: 7, Increase: 8, Rate: 8, Over: true},
		{Name: "a", Window: 7, Increase: 8, Rate: -9, Over: true},
		{Name: "a", Window: 7, Increase: 8, Rate: 9 + 1<<32, Over: true},
		{Name: "a", Window: 7, Increase: 8, Rate: 9},
		{Name: "a", Window: 8, Increase: 7, Rate: 9, Over: true}, // numbers in each other's place
		{Name: "a", Window: 7, Increase: 9, Rate: 8, Over: true},
		{Name: "a", Window: 9, Increase: 8, Rate: 7, Over: true},
		{Name: "x y", Window: least, Increase: most, Rate: least},
		{Name: "\xff", Window: most, Increase: least, Rate: most},
	}
	for i, a := range unlike {
		for k, b := range unlike {
			b.Name = strings.Clone(b.Name)
			if is := group.SameRecord(a, b); is != (i == k) {
				t.Errorf("%+v, and %+v: same %v", a, b, is)
			}
		}
	}
}
