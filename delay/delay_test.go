package delay_test

import (
	"math"
	"math/big"
	"testing"

	"countermand/api"
	"countermand/delay"
)

const (
	least    = math.MinInt
	greatest = math.MaxInt
)

// nearest is n, or the end of lo to hi that is nearest to it.
func nearest(n int, lo int, hi int) int {
	return max(lo, min(n, hi))
}

// reckoned is the wait by the chapter's words, of numbers that are never too great.
func reckoned(base int, most int, n int) int {
	base, most, n = nearest(base, 1, 64), nearest(most, 1, 64), nearest(n, 0, 64)
	if n == 0 {
		return 0
	}
	w := new(big.Int).Lsh(big.NewInt(int64(base)), uint(n-1))
	if w.Cmp(big.NewInt(int64(most))) > 0 {
		return most
	}
	return int(w.Int64())
}

// reckonedTotal is the waits' sum by the chapter's words.
func reckonedTotal(base int, most int, n int) int {
	sum := 0
	for i := 1; i <= nearest(n, 0, 64); i++ {
		sum += reckoned(base, most, i)
	}
	return sum
}

// waits are first and greatest waits: all that count as themselves, and such as count as the nearest.
func waits() []int {
	l := []int{least, least + 1, -1 << 32, -1<<32 + 5, -65, -64, -2, -1, 65, 66, 128, 1 << 30, 1<<32 + 1, 1 << 62, greatest - 1, greatest}
	for n := range api.MaxWait + 1 {
		l = append(l, n)
	}
	return l
}

// counts are numbers of tries, among them such as count as 0 or as 64.
func counts() []int {
	return []int{least, least + 1, -1 << 32, -64, -2, -1, 0, 1, 2, 3, 4, 5, 6, 7, 8, 9, 31, 32, 33, 62, 63, 64, 65, 66, 128, 1 << 32, 1<<32 + 1, greatest - 1, greatest}
}

// lasts are times, and what they count as.
func lasts() map[int]int {
	return map[int]int{
		least: 0, least + 1: 0, -1 << 32: 0, -64: 0, -1: 0,
		0: 0, 1: 1, 2: 2, 99: 99, 1 << 29: 1 << 29,
		1<<30 - 1: 1<<30 - 1, 1 << 30: 1 << 30,
		1<<30 + 1: 1 << 30, 1<<30 + 64: 1 << 30, 1 << 31: 1 << 30, 1<<32 + 7: 1 << 30, greatest - 64: 1 << 30, greatest - 1: 1 << 30, greatest: 1 << 30,
	}
}

func TestExample(t *testing.T) {
	for i, want := range []int{0, 3, 6, 10, 10, 10} {
		if got := delay.Wait(3, 10, i); got != want {
			t.Errorf("example 1: Wait(3, 10, %d) = %d; want %d", i, got, want)
		}
	}
	for i, want := range []int{0, 3, 9, 19, 29, 39} {
		if got := delay.Total(3, 10, i); got != want {
			t.Errorf("example 1: Total(3, 10, %d) = %d; want %d", i, got, want)
		}
	}
}

func TestWait(t *testing.T) {
	for _, x := range []struct{ base, most, n, want int }{
		{1, 64, 1, 1},
		{1, 64, 2, 2},
		{1, 64, 3, 4},
		{1, 64, 6, 32},
		{1, 64, 7, 64},
		{1, 64, 8, 64},
		{1, 63, 6, 32},
		{1, 63, 7, 63},
		{5, 39, 3, 20},
		{5, 39, 4, 39},
		{5, 40, 4, 40},
		{5, 41, 4, 40},
		{5, 41, 5, 41},
		{33, 64, 1, 33},
		{33, 64, 2, 64},
		// base and most at their ends, and beyond them.
		{1, 1, 1, 1},
		{1, 1, 9, 1},
		{0, 64, 1, 1},
		{0, 64, 4, 8},
		{-1, 64, 4, 8},
		{least, 64, 4, 8},
		{64, 64, 1, 64},
		{65, 64, 1, 64},
		{greatest, 64, 1, 64},
		{64, 64, 2, 64},
		{greatest, 64, 2, 64},
		{1, 0, 1, 1},
		{1, 0, 5, 1},
		{1, -1, 5, 1},
		{1, least, 5, 1},
		{1, 65, 8, 64},
		{1, greatest, 8, 64},
		{7, 65, 5, 64},
		{greatest, greatest, 64, 64},
		{least, least, 64, 1},
		{least, greatest, 3, 4},
		{greatest, least, 3, 1},
		// base above most.
		{10, 3, 1, 3},
		{10, 3, 2, 3},
		{64, 1, 1, 1},
		{64, 63, 1, 63},
		{2, 0, 1, 1},
		{greatest, 7, 1, 7},
		// n at its ends, and beyond them.
		{3, 10, 0, 0},
		{3, 10, -1, 0},
		{3, 10, least, 0},
		{10, 3, 0, 0},
		{least, least, 0, 0},
		{greatest, greatest, -1, 0},
		{1, 64, 63, 64},
		{1, 64, 64, 64},
		{1, 64, 65, 64},
		{1, 64, greatest, 64},
		{1, 1, greatest, 1},
		{64, 64, greatest, 64},
		// What 32 bits, or 64, are filled by.
		{1, 64, 33, 64},
		{64, 50, 27, 50},
		{64, 50, 58, 50},
		{64, 50, 59, 50},
	} {
		if got := delay.Wait(x.base, x.most, x.n); got != x.want {
			t.Errorf("P5.1: Wait(%d, %d, %d) = %d; want %d", x.base, x.most, x.n, got, x.want)
		}
	}
}

func TestWaitAsReckoned(t *testing.T) {
	for _, base := range waits() {
		for _, most := range waits() {
			for _, n := range counts() {
				if got, want := delay.Wait(base, most, n), reckoned(base, most, n); got != want {
					t.Errorf("P5.1: Wait(%d, %d, %d) = %d; want %d", base, most, n, got, want)
				}
			}
		}
	}
}

func TestDue(t *testing.T) {
	for _, x := range []struct{ base, most, n, last, want int }{
		{3, 10, 1, 100, 103},
		{3, 10, 2, 100, 106},
		{3, 10, 3, 100, 110},
		{3, 10, 0, 100, 100},
		{3, 10, -1, 100, 100},
		{3, 10, least, 100, 100},
		{3, 10, greatest, 100, 110},
		{3, 10, 0, -1, 0},
		{3, 10, 1, 0, 3},
		{3, 10, 1, -1, 3},
		{3, 10, 1, least, 3},
		{64, 64, 1, 1<<30 - 1, 1<<30 + 63},
		{64, 64, 1, 1 << 30, 1<<30 + 64},
		{64, 64, 1, 1<<30 + 1, 1<<30 + 64},
		{64, 64, 1, greatest, 1<<30 + 64},
		{64, 64, 0, 1 << 30, 1 << 30},
		{64, 64, 0, 1<<30 + 1, 1 << 30},
		{64, 64, 0, greatest, 1 << 30},
		{least, least, least, least, 0},
		{greatest, greatest, greatest, greatest, 1<<30 + 64},
		{10, 3, 5, 20, 23},
	} {
		if got := delay.Due(x.base, x.most, x.n, x.last); got != x.want {
			t.Errorf("P5.1: Due(%d, %d, %d, %d) = %d; want %d", x.base, x.most, x.n, x.last, got, x.want)
		}
	}
}

// few are waits for calls that are tried with many other numbers.
func few() []int {
	return []int{least, -1, 0, 1, 2, 3, 10, 63, 64, 65, greatest}
}

func TestDueAsReckoned(t *testing.T) {
	for _, base := range few() {
		for _, most := range few() {
			for _, n := range counts() {
				for last, from := range lasts() {
					want := from + reckoned(base, most, n)
					if got := delay.Due(base, most, n, last); got != want {
						t.Errorf("P5.1: Due(%d, %d, %d, %d) = %d; want %d", base, most, n, last, got, want)
					}
				}
			}
		}
	}
}

func checkReady(t *testing.T, base int, most int, n int, last int, now int, want bool) {
	t.Helper()
	if got := delay.Ready(base, most, n, last, now); got != want {
		t.Errorf("P5.1: Ready(%d, %d, %d, %d, %d) = %t; want %t", base, most, n, last, now, got, want)
	}
}

func TestReady(t *testing.T) {
	for _, x := range []struct {
		base, most, n, last, now int
		want                     bool
	}{
		{3, 10, 1, 100, 102, false},
		{3, 10, 1, 100, 103, true},
		{3, 10, 1, 100, 104, true},
		{3, 10, 2, 100, 105, false},
		{3, 10, 2, 100, 106, true},
		{3, 10, 3, 100, 109, false},
		{3, 10, 3, 100, 110, true},
		{3, 10, 1, 100, 100, false},
		{3, 10, 1, 100, 0, false},
		{3, 10, 1, 100, -1, false},
		{3, 10, 1, 100, least, false},
		{3, 10, 1, 100, greatest, true},
		{1, 1, 1, 0, 0, false},
		{1, 1, 1, 0, 1, true},
		{1, 1, 1, -1, 0, false},
		{1, 1, 1, least, 0, false},
		{1, 1, 1, least, least, false},
		{1, 1, 1, least, 1, true},
		{64, 64, 1, 1 << 30, 1 << 30, false},
		{64, 64, 1, 1 << 30, 1<<30 + 63, false},
		{64, 64, 1, 1 << 30, 1<<30 + 64, true},
		{64, 64, 1, greatest, 1<<30 + 63, false},
		{64, 64, 1, greatest, 1<<30 + 64, true},
		{64, 64, greatest, greatest, greatest, true},
		{64, 64, greatest, greatest, least, false},
	} {
		checkReady(t, x.base, x.most, x.n, x.last, x.now, x.want)
	}
}

func TestReadyAsReckoned(t *testing.T) {
	for _, base := range few() {
		for _, most := range few() {
			for _, n := range counts() {
				for last, from := range lasts() {
					due := from + reckoned(base, most, n)
					for _, now := range []int{least, least + 1, due - 64, due - 2, due - 1} {
						checkReady(t, base, most, n, last, now, n <= 0)
					}
					for _, now := range []int{due, due + 1, due + 64, greatest - 1, greatest} {
						checkReady(t, base, most, n, last, now, true)
					}
				}
			}
		}
	}
}

// TestReadyAheadOfTheFirst: where nothing was tried, now does not count.
func TestReadyAheadOfTheFirst(t *testing.T) {
	for _, n := range []int{0, -1, -2, -1 << 32, least + 1, least} {
		for last := range lasts() {
			for _, now := range []int{least, least + 1, -1, 0, 1, 99, 1<<30 - 1, 1 << 30, greatest} {
				checkReady(t, 3, 10, n, last, now, true)
				checkReady(t, greatest, greatest, n, last, now, true)
				checkReady(t, least, least, n, last, now, true)
			}
		}
	}
	checkReady(t, 3, 10, 1, 99, 0, false)
}

func TestTotal(t *testing.T) {
	for _, x := range []struct{ base, most, n, want int }{
		{1, 64, 1, 1},
		{1, 64, 2, 3},
		{1, 64, 7, 127},
		{1, 64, 8, 191},
		{5, 39, 4, 74},
		{3, 10, 0, 0},
		{3, 10, -1, 0},
		{3, 10, least, 0},
		{least, greatest, 3, 7},
		{0, 65, 8, 191},
		{greatest, 64, 2, 128},
		{1, 0, 5, 5},
		{1, least, 5, 5},
		{10, 3, 4, 12},
		{1, 1, 63, 63},
		{1, 1, 64, 64},
		{1, 1, 65, 64},
		{1, 1, greatest, 64},
		{64, 64, 63, 4032},
		{64, 64, 64, 4096},
		{64, 64, 65, 4096},
		{greatest, greatest, greatest, 4096},
		{1, 64, 64, 63 + 58*64},
		{1, 64, greatest, 63 + 58*64},
	} {
		if got := delay.Total(x.base, x.most, x.n); got != x.want {
			t.Errorf("P5.1: Total(%d, %d, %d) = %d; want %d", x.base, x.most, x.n, got, x.want)
		}
	}
}

func TestTotalAsReckoned(t *testing.T) {
	for _, base := range waits() {
		for _, most := range waits() {
			for _, n := range counts() {
				if got, want := delay.Total(base, most, n), reckonedTotal(base, most, n); got != want {
					t.Errorf("P5.1: Total(%d, %d, %d) = %d; want %d", base, most, n, got, want)
				}
			}
		}
	}
}

// TestTotalIsOfWaits: each try's wait is what it adds.
func TestTotalIsOfWaits(t *testing.T) {
	for _, base := range waits() {
		for _, most := range waits() {
			sum := 0
			for n := 1; n <= 64; n++ {
				sum += delay.Wait(base, most, n)
				if got := delay.Total(base, most, n); got != sum {
					t.Errorf("P5.1: Total(%d, %d, %d) = %d; the waits are %d", base, most, n, got, sum)
				}
			}
		}
	}
}

func TestWaitsDoNotFall(t *testing.T) {
	for _, base := range waits() {
		for _, most := range waits() {
			ahead := 0
			for n := -2; n < 70; n++ {
				w := delay.Wait(base, most, n)
				if w < ahead {
					t.Errorf("P5.2: Wait(%d, %d, %d) = %d, and %d ahead of it", base, most, n, w, ahead)
				}
				if w > nearest(most, 1, api.MaxWait) {
					t.Errorf("P5.2: Wait(%d, %d, %d) = %d, above most", base, most, n, w)
				}
				ahead = w
			}
			if w := delay.Wait(base, most, greatest); w < ahead {
				t.Errorf("P5.2: Wait(%d, %d, %d) = %d, and %d ahead of it", base, most, greatest, w, ahead)
			}
		}
	}
}
