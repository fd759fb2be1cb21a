package num_test

import (
	"math"
	"math/big"
	"slices"
	"testing"

	"countermand/num"
)

const (
	least    = math.MinInt64
	greatest = math.MaxInt64
)

// two is a call of two numbers, and what should come of it.
type two struct {
	a, b, want int64
	ok         bool
}

func checkTwo(t *testing.T, name string, call func(int64, int64) (int64, bool), l []two) {
	t.Helper()
	for _, x := range l {
		n, ok := call(x.a, x.b)
		if n != x.want || ok != x.ok {
			t.Errorf("P1.1: %s(%d, %d) = %d, %t; want %d, %t", name, x.a, x.b, n, ok, x.want, x.ok)
		}
	}
}

func TestAdd(t *testing.T) {
	checkTwo(t, "Add", num.Add, []two{
		{0, 0, 0, true},
		{2, 3, 5, true},
		{-2, -3, -5, true},
		{7, -9, -2, true},
		{greatest, 0, greatest, true},
		{0, greatest, greatest, true},
		{greatest - 1, 1, greatest, true},
		{greatest, 1, 0, false},
		{1, greatest, 0, false},
		{greatest, greatest, 0, false},
		{least, 0, least, true},
		{0, least, least, true},
		{least + 1, -1, least, true},
		{least, -1, 0, false},
		{-1, least, 0, false},
		{least, least, 0, false},
		{least, greatest, -1, true},
		{greatest, least, -1, true},
		{-greatest, greatest, 0, true},
	})
}

func TestSub(t *testing.T) {
	checkTwo(t, "Sub", num.Sub, []two{
		{0, 0, 0, true},
		{5, 3, 2, true},
		{3, 5, -2, true},
		{-3, -5, 2, true},
		{least, 0, least, true},
		{least + 1, 1, least, true},
		{least, 1, 0, false},
		{least, greatest, 0, false},
		{-1, greatest, least, true},
		{-2, greatest, 0, false},
		{greatest, 0, greatest, true},
		{greatest - 1, -1, greatest, true},
		{greatest, -1, 0, false},
		{greatest, least, 0, false},
		{0, least, 0, false},
		{-1, least, greatest, true},
		{least, least, 0, true},
		{greatest, greatest, 0, true},
	})
}

func TestMul(t *testing.T) {
	checkTwo(t, "Mul", num.Mul, []two{
		{6, 7, 42, true},
		{-6, 7, -42, true},
		{6, -7, -42, true},
		{-6, -7, 42, true},
		{0, least, 0, true},
		{least, 0, 0, true},
		{0, 0, 0, true},
		{greatest, 1, greatest, true},
		{1, greatest, greatest, true},
		{greatest, -1, -greatest, true},
		{-1, greatest, -greatest, true},
		{least, 1, least, true},
		{1, least, least, true},
		{least, -1, 0, false},
		{-1, least, 0, false},
		{-1, -1, 1, true},
		{1 << 61, 2, 1 << 62, true},
		{1 << 62, 2, 0, false},
		{2, 1 << 62, 0, false},
		{-1 << 62, 2, least, true},
		{2, -1 << 62, least, true},
		{1 << 62, -2, least, true},
		{-1 << 62, -2, 0, false},
		{-1<<62 - 1, 2, 0, false},
		{1<<62 - 1, 2, greatest - 1, true},
		{3037000499, 3037000499, 9223372030926249001, true},
		{3037000500, 3037000500, 0, false},
		{-3037000500, 3037000500, 0, false},
		// 2^63 - 1 is 7 times 1317624576693539401.
		{7, 1317624576693539401, greatest, true},
		{7, 1317624576693539402, 0, false},
		// The product is a multiple of 2^64, and wraps round to 0.
		{1 << 32, 1 << 32, 0, false},
		{least, 2, 0, false},
		{2, least, 0, false},
		{least, least, 0, false},
		{greatest, greatest, 0, false},
		{least, greatest, 0, false},
	})
}

func TestSum(t *testing.T) {
	for _, x := range []struct {
		l    []int64
		want int64
		ok   bool
	}{
		{nil, 0, true},
		{[]int64{}, 0, true},
		{[]int64{5}, 5, true},
		{[]int64{least}, least, true},
		{[]int64{greatest}, greatest, true},
		{[]int64{1, -2, 3, 40}, 42, true},
		{[]int64{greatest, -1, 1}, greatest, true},
		{[]int64{least, greatest, 1}, 0, true},
		{[]int64{greatest, least, greatest, 1}, greatest, true},
		{[]int64{greatest, 1}, 0, false},
		{[]int64{greatest, 1, -1}, 0, false},
		{[]int64{least, -1, 1}, 0, false},
		{[]int64{1, greatest, least, 5}, 0, false},
		{[]int64{3, 4, greatest, -greatest, -7}, 0, false},
		{[]int64{-5, least, 5, greatest}, 0, false},
	} {
		given := slices.Clone(x.l)
		n, ok := num.Sum(x.l...)
		if n != x.want || ok != x.ok {
			t.Errorf("P1.1: Sum(%d) = %d, %t; want %d, %t", given, n, ok, x.want, x.ok)
		}
		if !slices.Equal(x.l, given) {
			t.Errorf("P2: Sum made %d of %d", x.l, given)
		}
	}
	if n, ok := num.Sum(); n != 0 || !ok {
		t.Errorf("P1.1: Sum() = %d, %t; want 0, true", n, ok)
	}
	if n, ok := num.Sum(1, 2, 3); n != 6 || !ok {
		t.Errorf("P1.1: Sum(1, 2, 3) = %d, %t; want 6, true", n, ok)
	}
}

func TestSumIsNotKept(t *testing.T) {
	l := []int64{1, 2}
	first, _ := num.Sum(l...)
	l[0] = 10
	second, _ := num.Sum(l...)
	third, _ := num.Sum(1, 2)
	if first != 3 || second != 12 || third != 3 {
		t.Errorf("P2, P3: sums %d, %d, %d; want 3, 12, 3", first, second, third)
	}
}

func TestClamp(t *testing.T) {
	for _, x := range []struct{ n, lo, hi, want int }{
		{5, 0, 9, 5},
		{-1, 0, 9, 0},
		{0, 0, 9, 0},
		{9, 0, 9, 9},
		{10, 0, 9, 9},
		{-7, -9, -5, -7},
		{3, 4, 4, 4},
		{4, 4, 4, 4},
		{5, 4, 4, 4},
		{math.MinInt, 0, 9, 0},
		{math.MaxInt, 0, 9, 9},
		{math.MinInt, math.MinInt, math.MaxInt, math.MinInt},
		{math.MaxInt, math.MinInt, math.MaxInt, math.MaxInt},
		// lo above hi: below lo it is lo, from lo on it is hi.
		{0, 9, 3, 9},
		{3, 9, 3, 9},
		{5, 9, 3, 9},
		{8, 9, 3, 9},
		{9, 9, 3, 3},
		{10, 9, 3, 3},
		{0, math.MaxInt, math.MinInt, math.MaxInt},
		{math.MaxInt, math.MaxInt, math.MinInt, math.MinInt},
	} {
		if n := num.Clamp(x.n, x.lo, x.hi); n != x.want {
			t.Errorf("P1.1: Clamp(%d, %d, %d) = %d; want %d", x.n, x.lo, x.hi, n, x.want)
		}
	}
}

func TestIn(t *testing.T) {
	for _, x := range []struct {
		n, lo, hi int64
		want      bool
	}{
		{5, 0, 9, true},
		{0, 0, 9, true},
		{9, 0, 9, true},
		{-1, 0, 9, false},
		{10, 0, 9, false},
		{4, 4, 4, true},
		{3, 4, 4, false},
		{5, 4, 4, false},
		{5, 9, 3, false},
		{9, 9, 3, false},
		{3, 9, 3, false},
		{least, least, greatest, true},
		{greatest, least, greatest, true},
		{least, least + 1, greatest, false},
		{greatest, least, greatest - 1, false},
	} {
		if got := num.In(x.n, x.lo, x.hi); got != x.want {
			t.Errorf("P1.1: In(%d, %d, %d) = %t; want %t", x.n, x.lo, x.hi, got, x.want)
		}
	}
}

// edges are numbers near which 64 bits come to an end, in sums or in products.
func edges() []int64 {
	var l []int64
	for _, m := range []int64{least, -1 << 62, -1 << 32, -3037000500, -1 << 31, -7, 0, 7, 1 << 31, 3037000499, 1 << 32, 1 << 62, greatest} {
		for d := int64(-2); d <= 2; d++ {
			l = append(l, m+d) // wraps round at both ends: an edge as well
		}
	}
	return l
}

// TestAgainstBig holds all pairs of edges against numbers that are never too great.
func TestAgainstBig(t *testing.T) {
	calls := []struct {
		name string
		call func(int64, int64) (int64, bool)
		big  func(z, a, b *big.Int) *big.Int
	}{
		{"Add", num.Add, (*big.Int).Add},
		{"Sub", num.Sub, (*big.Int).Sub},
		{"Mul", num.Mul, (*big.Int).Mul},
		{"Sum", func(a, b int64) (int64, bool) { return num.Sum(a, b) }, (*big.Int).Add},
	}
	for _, c := range calls {
		for _, a := range edges() {
			for _, b := range edges() {
				z := c.big(new(big.Int), big.NewInt(a), big.NewInt(b))
				want, ok := int64(0), z.IsInt64()
				if ok {
					want = z.Int64()
				}
				checkTwo(t, c.name, c.call, []two{{a, b, want, ok}})
			}
		}
	}
}
