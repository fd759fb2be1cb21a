// Package num is layer 1: whole numbers that may be too great.
package num

// Add is a and b together.
func Add(a int64, b int64) (int64, bool) {
	s := a + b
	// What wrapped round lies on the wrong side of a.
	if b > 0 && s < a || b < 0 && s > a {
		return 0, false
	}
	return s, true
}

// Sub is a less b.
func Sub(a int64, b int64) (int64, bool) {
	d := a - b
	// Not Add of -b: the least number has no opposite.
	if b > 0 && d > a || b < 0 && d < a {
		return 0, false
	}
	return d, true
}

// Mul is a times b.
func Mul(a int64, b int64) (int64, bool) {
	if b == 0 {
		return 0, true
	}
	// Divided by -1 the least number is itself, so that dividing back would not tell.
	if b == -1 {
		return Sub(0, a)
	}
	p := a * b
	if p/b != a {
		return 0, false
	}
	return p, true
}

// Sum is all of l together, added from the first one on.
func Sum(l ...int64) (int64, bool) {
	s := int64(0)
	for _, n := range l {
		next, ok := Add(s, n)
		if !ok {
			return 0, false
		}
		s = next
	}
	return s, true
}

// Clamp is lo, if n is below it; else hi, if n is above it; else n.
func Clamp(n int, lo int, hi int) int {
	// Not min and max: where lo is above hi, they would let hi win over lo.
	if n < lo {
		return lo
	}
	if n > hi {
		return hi
	}
	return n
}

// In tells whether n is from lo to hi.
func In(n int64, lo int64, hi int64) bool {
	return lo <= n && n <= hi
}
