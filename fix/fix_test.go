package fix_test

import (
	"math"
	"math/big"
	"testing"

	"odometer/fix"
)

const (
	most  = math.MaxInt64
	least = math.MinInt64
)

// edges are numbers at which sums and texts may go wrong.
func edges() []int64 {
	l := []int64{0}
	for _, n := range []int64{1, 2, 3, 7, 9, 10, 11, 99, 100, 1000, 999999, 1000000, 1000001, 1500000, 12345678, 1<<31 - 1, 1 << 31, 1<<32 - 1, 1 << 32, 3037000499, 3037000500, 1<<53 + 1, 1<<62 - 1, 1 << 62, 1<<62 + 1, 1e18, 9223372036854000000, most - 1, most} {
		l = append(l, n, -n)
	}
	return append(l, least)
}

// within is what a call has to answer where n is the number without bounds.
func within(n *big.Int) (int64, bool) {
	if n.IsInt64() {
		return n.Int64(), false
	}
	if n.Sign() < 0 {
		return least, true
	}
	return most, true
}

// sequence gives numbers of all sizes, the same in each run.
func sequence() func() int64 {
	state := uint64(1)
	return func() int64 {
		state = state*6364136223846793005 + 1442695040888963407
		size := state >> 58
		state = state*6364136223846793005 + 1442695040888963407
		return int64(state) >> size
	}
}

func checkAdd(t *testing.T, a, b int64) {
	t.Helper()
	want, over := within(new(big.Int).Add(big.NewInt(a), big.NewInt(b)))
	if n, is := fix.Add(a, b); n != want || is != over {
		t.Errorf("Add(%d, %d) = %d, %v, want %d, %v", a, b, n, is, want, over)
	}
}

func checkSub(t *testing.T, a, b int64) {
	t.Helper()
	want, over := within(new(big.Int).Sub(big.NewInt(a), big.NewInt(b)))
	if n, is := fix.Sub(a, b); n != want || is != over {
		t.Errorf("Sub(%d, %d) = %d, %v, want %d, %v", a, b, n, is, want, over)
	}
}

func checkScale(t *testing.T, a, num, den int64) {
	t.Helper()
	by := big.NewInt(max(den, 1))
	product := new(big.Int).Mul(big.NewInt(a), big.NewInt(num))
	want, over := within(product.Div(product, by)) // of a divisor above 0, Div rounds down
	if n, is := fix.Scale(a, num, den); n != want || is != over {
		t.Errorf("Scale(%d, %d, %d) = %d, %v, want %d, %v", a, num, den, n, is, want, over)
	}
}

// P1.3

func TestAdd(t *testing.T) {
	for _, x := range []struct {
		a, b, want int64
		over       bool
	}{
		{0, 0, 0, false},
		{2, 3, 5, false},
		{-2, 3, 1, false},
		{most, 0, most, false},
		{most - 1, 1, most, false},
		{most, 1, most, true},
		{most, most, most, true},
		{1 << 62, 1 << 62, most, true},
		{least, 0, least, false},
		{least + 1, -1, least, false},
		{least, -1, least, true},
		{least, least, least, true},
		{-1 << 62, -1 << 62, least, false},
		{least, most, -1, false},
	} {
		if n, is := fix.Add(x.a, x.b); n != x.want || is != x.over {
			t.Errorf("Add(%d, %d) = %d, %v, want %d, %v", x.a, x.b, n, is, x.want, x.over)
		}
	}
}

func TestSub(t *testing.T) {
	for _, x := range []struct {
		a, b, want int64
		over       bool
	}{
		{0, 0, 0, false},
		{5, 3, 2, false},
		{3, 5, -2, false},
		{0, most, -most, false},
		{0, least, most, true},
		{-1, least, most, false},
		{1, least, most, true},
		{least, least, 0, false},
		{most, most, 0, false},
		{most, least, most, true},
		{most, -1, most, true},
		{least, most, least, true},
		{least, 1, least, true},
		{least + 1, 1, least, false},
		{-2, most, least, true},
		{-1, most, least, false},
	} {
		if n, is := fix.Sub(x.a, x.b); n != x.want || is != x.over {
			t.Errorf("Sub(%d, %d) = %d, %v, want %d, %v", x.a, x.b, n, is, x.want, x.over)
		}
	}
}

func TestScale(t *testing.T) {
	for _, x := range []struct {
		a, num, den, want int64
		over              bool
	}{
		{0, 0, 1, 0, false},
		{0, -5, 3, 0, false},
		{-5, 0, 3, 0, false},
		{6, 4, 3, 8, false},
		{7, 1, 2, 3, false},
		{-7, 1, 2, -4, false},
		{7, -1, 2, -4, false},
		{-7, -1, 2, 3, false},
		{-8, 1, 2, -4, false},
		{1, 1, most, 0, false},
		{-1, 1, most, -1, false},
		{5, 7, 0, 35, false},
		{5, 7, -2, 35, false},
		{-5, 7, least, -35, false},
		{most, 1, 1, most, false},
		{most, most, most, most, false},
		{most, 2, 1, most, true},
		{most, most, 1, most, true},
		{most, most, most - 1, most, true},
		{most, -2, 1, least, true},
		{least, 1, 1, least, false},
		{least, -1, 1, most, true},
		{least, -1, 2, 1 << 62, false},
		{least, least, 1, most, true},
		{least, least, most, most, true},
		{least, most, most, least, false},
		{least, most, most - 1, least, true},
		{least + 1, -1, 1, most, false},
		{1 << 62, 4, 2, most, true},
		{1 << 62, -4, 2, least, false},
		{1<<62 + 1, -2, 1, least, true},
		{-6148914691236517205, 3, 2, least, false},  // the least number, and a half: rounded down, it is it
		{-6148914691236517206, 3, 2, least, true},   // one below it
		{5534023222112865485, -5, 3, least, true},   // a third below the least: rounded down, it is beyond
		{-2515465100960393402, 11, 3, least, false}, // two thirds above the least: rounded down, it is it
		{2515465100960393402, 11, 3, most, false},   // a third above the greatest: rounded down, it is it
		{5534023222112865485, 5, 3, most, true},     // a whole and a third above it
		{8384883669867978007, -11, 5, least, true},  // rounded down, it is just -(2 to the 64)
		{8384883669867978007, 11, 5, most, true},    // rounded down, it is 2 to the 64, less 1
		{1 << 62, 1 << 62, 1 << 61, most, true},     // 2 to the 63
		{1 << 62, 1 << 62, 1 << 60, most, true},     // 2 to the 64
		{-1 << 62, 1 << 62, 1 << 61, least, false},  // -(2 to the 63)
	} {
		if n, is := fix.Scale(x.a, x.num, x.den); n != x.want || is != x.over {
			t.Errorf("Scale(%d, %d, %d) = %d, %v, want %d, %v", x.a, x.num, x.den, n, is, x.want, x.over)
		}
	}
}

func TestSumsAtEdges(t *testing.T) {
	l := edges()
	for _, a := range l {
		for _, b := range l {
			checkAdd(t, a, b)
			checkSub(t, a, b)
			for _, den := range l {
				checkScale(t, a, b, den)
			}
		}
		if t.Failed() {
			return
		}
	}
}

func TestSumsOfManyNumbers(t *testing.T) {
	next := sequence()
	for range 100000 {
		a, b, den := next(), next(), next()
		checkAdd(t, a, b)
		checkSub(t, a, b)
		checkScale(t, a, b, den)
		if t.Failed() {
			return
		}
	}
}

// Products by den around 2 to the 63, where the numbers end, and 2 to the 64, where their sizes do.
func TestScaleAtTheEnds(t *testing.T) {
	for _, end := range []uint{63, 64} {
		for den := int64(1); den < 40; den++ {
			product := new(big.Int).Lsh(big.NewInt(den), end)
			for num := int64(1); num < 120; num++ {
				a := new(big.Int).Div(product, big.NewInt(num))
				for range 3 {
					if a.IsInt64() {
						checkScale(t, a.Int64(), num, den)
						checkScale(t, -a.Int64(), num, den)
						checkScale(t, a.Int64(), -num, den)
						checkScale(t, -a.Int64(), -num, den)
					}
					a.Add(a, big.NewInt(1))
				}
			}
		}
	}
}
