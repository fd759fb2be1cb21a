package octet_test

import (
	"bytes"
	"math"
	"slices"
	"testing"

	"countermand/octet"
)

// noWidths are such w as no number has octets; the last ones are from 1 to 8 in fewer bits, or when counted in bits.
func noWidths() []int {
	return []int{0, 9, -1, -8, 10, 64, 255, 256, -255, 257, 264, 1<<16 + 1, 1<<32 + 8, 1<<61 + 1, math.MinInt, math.MinInt + 1, math.MaxInt}
}

// numbers are such as fill their octets, just do not, or are greater than fewer octets hold.
func numbers() []uint64 {
	l := []uint64{0x0102030405060708, 0xfedcba9876543210, 0x8000000000000001, 0x00ff00ff00ff00ff}
	for bit := range 64 {
		n := uint64(1) << bit
		l = append(l, n-1, n, n+1)
	}
	return append(l, math.MaxUint64)
}

// cut is n modulo 256^w.
func cut(n uint64, w int) uint64 {
	if w < 8 {
		return n % (1 << (8 * w))
	}
	return n
}

// checkTell holds what Left, Done and Bad tell against what they should.
func checkTell(t *testing.T, what string, r *octet.Reader, left int, done bool, bad bool) {
	t.Helper()
	// Twice: asking changes nothing.
	for range 2 {
		if l, d, b := r.Left(), r.Done(), r.Bad(); l != left || d != done || b != bad {
			t.Errorf("P2.2: %s: Left %d, Done %t, Bad %t; want %d, %t, %t", what, l, d, b, left, done, bad)
		}
	}
}

// checkTake holds a Take that should go well against the number.
func checkTake(t *testing.T, r *octet.Reader, w int, want uint64) {
	t.Helper()
	if n, ok := r.Take(w); n != want || !ok {
		t.Errorf("P2.2: Take(%d) = %#x, %t; want %#x, true", w, n, ok, want)
	}
}

// checkBytes holds Bytes that should go well against the octets.
func checkBytes(t *testing.T, r *octet.Reader, n int, want []byte) {
	t.Helper()
	if b, ok := r.Bytes(n); !bytes.Equal(b, want) || !ok {
		t.Errorf("P2.2: Bytes(%d) = %v, %t; want %v, true", n, b, ok, want)
	}
}

// checkNoTake holds a Take that should fail.
func checkNoTake(t *testing.T, what string, r *octet.Reader, w int) {
	t.Helper()
	if n, ok := r.Take(w); n != 0 || ok {
		t.Errorf("P2.2: %s: Take(%d) = %#x, %t; want 0, false", what, w, n, ok)
	}
}

// checkNoBytes holds Bytes that should fail.
func checkNoBytes(t *testing.T, what string, r *octet.Reader, n int) {
	t.Helper()
	if b, ok := r.Bytes(n); len(b) != 0 || ok {
		t.Errorf("P2.2: %s: Bytes(%d) = %v, %t; want nothing, false", what, n, b, ok)
	}
}

// checkBad holds that a reader is bad, reads nothing any more, and stays so.
func checkBad(t *testing.T, what string, r *octet.Reader) {
	t.Helper()
	checkTell(t, what, r, 0, false, true)
	for _, w := range append(noWidths(), 1, 2, 3, 4, 5, 6, 7, 8) {
		checkNoTake(t, what, r, w)
		checkTell(t, what, r, 0, false, true)
	}
	for _, n := range []int{0, 1, 2, 5, 8, -1, math.MinInt, math.MaxInt} {
		checkNoBytes(t, what, r, n)
		checkTell(t, what, r, 0, false, true)
	}
}

func TestPut(t *testing.T) {
	for _, x := range []struct {
		b    []byte
		n    uint64
		w    int
		want []byte
	}{
		{nil, 258, 2, []byte{1, 2}},
		{[]byte{}, 258, 2, []byte{1, 2}},
		{nil, 0, 1, []byte{0}},
		{nil, 7, 1, []byte{7}},
		{nil, 255, 1, []byte{255}},
		{[]byte{9, 8, 7}, 6, 1, []byte{9, 8, 7, 6}},
		{[]byte{9}, 0x0102030405060708, 8, []byte{9, 1, 2, 3, 4, 5, 6, 7, 8}},
		{[]byte{0, 0}, 1, 3, []byte{0, 0, 0, 0, 1}},
		{nil, 0xfffefdfcfbfaf9f8, 8, []byte{255, 254, 253, 252, 251, 250, 249, 248}},
		{nil, math.MaxUint64, 8, bytes.Repeat([]byte{255}, 8)},
		{nil, 0, 8, make([]byte, 8)},
		// Greater than w octets hold.
		{nil, 256, 1, []byte{0}},
		{nil, 258, 1, []byte{2}},
		{[]byte{5}, 0x0102030405060708, 1, []byte{5, 8}},
		{nil, 0x0102030405060708, 3, []byte{6, 7, 8}},
		{nil, 0x0102030405060708, 7, []byte{2, 3, 4, 5, 6, 7, 8}},
		{nil, 1 << 56, 7, make([]byte, 7)},
		{nil, math.MaxUint64, 2, []byte{255, 255}},
		// Two's complement of -2.
		{nil, math.MaxUint64 - 1, 2, []byte{255, 254}},
	} {
		if got := octet.Put(x.b, x.n, x.w); !bytes.Equal(got, x.want) {
			t.Errorf("P2.1: Put(%v, %#x, %d) = %v; want %v", x.b, x.n, x.w, got, x.want)
		}
	}
}

func TestPutOfNoWidth(t *testing.T) {
	for _, w := range noWidths() {
		for _, b := range [][]byte{nil, {}, {4}, {1, 2, 3, 4, 5, 6, 7, 8, 9}} {
			if got := octet.Put(b, 0x0102030405060708, w); !bytes.Equal(got, b) {
				t.Errorf("P2.1: Put(%v, .., %d) = %v; want what was handed in", b, w, got)
			}
		}
	}
}

// TestPutIsOfItsOwn: P2 of what Put is handed, with room behind it and without, and of what it answers.
func TestPutIsOfItsOwn(t *testing.T) {
	for _, w := range []int{1, 2, 8, 0, 9, -1} {
		for _, room := range []int{0, 20} {
			all := bytes.Repeat([]byte{0xee}, 3+room)
			copy(all, "abc")
			given := slices.Clone(all)
			b := all[:3]
			one := octet.Put(b, 0x1111111111111111, w)
			two := octet.Put(b, 0x2222222222222222, w)
			if !bytes.Equal(all, given) {
				t.Fatalf("P2: Put with w %d changed what it was handed, or what lies behind: %v", w, all)
			}
			first, second := slices.Clone(one), slices.Clone(two)
			for i := range all {
				all[i] = 0x77
			}
			if !bytes.Equal(one, first) || !bytes.Equal(two, second) {
				t.Errorf("P2: with w %d answers of Put hang on what it was handed", w)
			}
			one = one[:cap(one)]
			for i := range one {
				one[i] = 0x55
			}
			if !bytes.Equal(two, second) {
				t.Errorf("P2: with w %d two answers of Put share memory", w)
			}
			if !bytes.Equal(all, bytes.Repeat([]byte{0x77}, len(all))) {
				t.Errorf("P2: with w %d an answer of Put shares memory with what it was handed", w)
			}
			if len(first) >= 3 && !bytes.Equal(first[:3], []byte("abc")) {
				t.Errorf("P2.1: with w %d Put does not begin with what it was handed: %v", w, first)
			}
		}
	}
}

func TestTake(t *testing.T) {
	b := []byte{1, 2, 3, 4, 5, 6, 7, 8, 9, 10}
	want := []uint64{0x01, 0x0102, 0x010203, 0x01020304, 0x0102030405, 0x010203040506, 0x01020304050607, 0x0102030405060708}
	for i, n := range want {
		w := i + 1
		r := octet.New(b)
		checkTell(t, "a new one", r, 10, false, false)
		checkTake(t, r, w, n)
		checkTell(t, "behind a Take", r, 10-w, false, false)
		checkTake(t, r, 1, uint64(w+1))
		// All that is left, and one more.
		r = octet.New(b[:w])
		checkTake(t, r, w, n)
		checkTell(t, "all was taken", r, 0, true, false)
		r = octet.New(b[:w-1])
		checkNoTake(t, "one too few", r, w)
		checkBad(t, "one too few", r)
	}
	r := octet.New(bytes.Repeat([]byte{255}, 9))
	checkTake(t, r, 8, math.MaxUint64)
	checkTake(t, r, 1, 255)
	checkTell(t, "all was taken", r, 0, true, false)
	checkNoTake(t, "none is left", r, 1)
	checkBad(t, "none is left", r)
}

func TestTakeOfNoWidth(t *testing.T) {
	for _, w := range noWidths() {
		for _, left := range []int{0, 1, 5, 300} {
			r := octet.New(make([]byte, left))
			checkNoTake(t, "no width", r, w)
			checkBad(t, "no width", r)
			r = octet.New(make([]byte, left+2))
			checkTake(t, r, 2, 0)
			checkNoTake(t, "no width, behind a Take", r, w)
			checkBad(t, "no width, behind a Take", r)
		}
	}
}

func TestBytes(t *testing.T) {
	b := []byte{9, 8, 7, 6, 5}
	for n := 0; n <= len(b); n++ {
		r := octet.New(b)
		checkBytes(t, r, n, b[:n])
		checkTell(t, "behind Bytes", r, len(b)-n, n == len(b), false)
		checkBytes(t, r, 0, nil)
		checkTell(t, "behind Bytes of 0", r, len(b)-n, n == len(b), false)
		checkBytes(t, r, len(b)-n, b[n:])
		checkTell(t, "behind all Bytes", r, 0, true, false)
		checkBytes(t, r, 0, nil)
		checkTell(t, "behind all Bytes, and 0", r, 0, true, false)
	}
	for _, n := range []int{-1, -5, -256, -1 << 32, math.MinInt, len(b) + 1, 256, 257, 1 << 32, 1<<32 + 1, math.MaxInt} {
		r := octet.New(b)
		checkNoBytes(t, "no such many", r, n)
		checkBad(t, "no such many", r)
		r = octet.New(b)
		checkBytes(t, r, 5, b)
		checkNoBytes(t, "no such many behind all", r, n)
		checkBad(t, "no such many behind all", r)
	}
	r := octet.New(b)
	checkBytes(t, r, 2, b[:2])
	checkNoBytes(t, "one more than are left", r, 4)
	checkBad(t, "one more than are left", r)
}

func TestNewOfNothing(t *testing.T) {
	for _, b := range [][]byte{nil, {}, make([]byte, 0, 9), []byte{1, 2}[:0]} {
		r := octet.New(b)
		if r == nil {
			t.Fatal("P2.2: New of nothing is nil")
		}
		checkTell(t, "of nothing", r, 0, true, false)
		checkBytes(t, r, 0, nil)
		checkTell(t, "of nothing, behind Bytes of 0", r, 0, true, false)
		checkNoTake(t, "of nothing", r, 1)
		checkBad(t, "of nothing, behind a Take", r)
		r = octet.New(b)
		checkNoBytes(t, "of nothing", r, 1)
		checkBad(t, "of nothing, behind Bytes of 1", r)
	}
}

// TestNewReadsNoMore: what lies behind a slice, in its room, is not read.
func TestNewReadsNoMore(t *testing.T) {
	r := octet.New([]byte{1, 2, 3, 4}[1:3])
	checkTell(t, "a slice with room", r, 2, false, false)
	checkTake(t, r, 2, 0x0203)
	checkNoTake(t, "a slice with room", r, 1)
	checkBad(t, "a slice with room", r)
}

func TestMixed(t *testing.T) {
	r := octet.New([]byte{1, 2, 3, 4, 5, 6, 7})
	checkBytes(t, r, 1, []byte{1})
	checkTake(t, r, 2, 0x0203)
	checkBytes(t, r, 2, []byte{4, 5})
	checkTell(t, "in between", r, 2, false, false)
	checkTake(t, r, 1, 6)
	checkBytes(t, r, 1, []byte{7})
	checkTell(t, "at the end", r, 0, true, false)
}

func TestNoReader(t *testing.T) {
	checkBad(t, "nil", nil)
	checkBad(t, "new(Reader)", new(octet.Reader))
	var r octet.Reader
	checkBad(t, "a Reader variable", &r)
	// A bad one does not make others bad.
	checkTell(t, "one that New made", octet.New([]byte{1}), 1, false, false)
}

func TestReadersAreApart(t *testing.T) {
	b := []byte{1, 2, 3}
	one, two, three := octet.New(b), octet.New(b), octet.New(b)
	checkTake(t, one, 1, 1)
	checkNoTake(t, "too wide", two, 4)
	checkTell(t, "the first one", one, 2, false, false)
	checkTell(t, "the second one", two, 0, false, true)
	checkTell(t, "the third one", three, 3, false, false)
	checkBytes(t, three, 3, b)
	checkTake(t, one, 2, 0x0203)
}

// TestReaderIsOfItsOwn: P2 of what New is handed, and of what Bytes answers.
func TestReaderIsOfItsOwn(t *testing.T) {
	b := []byte{1, 2, 3, 4, 5, 6, 7, 8}
	given := slices.Clone(b)
	one, two := octet.New(b), octet.New(b)
	checkTake(t, one, 1, 1)
	// Whoever appends to an answer writes into all its room.
	first, _ := one.Bytes(2)
	first = first[:cap(first)]
	for i := range first {
		first[i] = 0xaa
	}
	if !bytes.Equal(b, given) {
		t.Fatalf("P2: what New was handed was changed: %v", b)
	}
	for i := range b {
		b[i] = 0xbb
	}
	second, _ := one.Bytes(2)
	checkTake(t, one, 3, 0x060708)
	checkBytes(t, two, 8, given)
	if !bytes.Equal(second, []byte{4, 5}) {
		t.Errorf("P2: Bytes = %v; want 4, 5, whatever became of what was handed in and answered ahead", second)
	}
	third := octet.New(given)
	whole, _ := third.Bytes(8)
	for i := range given {
		given[i] = 0xcc
	}
	if !bytes.Equal(whole, []byte{1, 2, 3, 4, 5, 6, 7, 8}) {
		t.Errorf("P2: Bytes hang on what New was handed: %v", whole)
	}
}

// TestThereAndBack: what was put, in all widths, behind one another, is taken.
func TestThereAndBack(t *testing.T) {
	for _, n := range numbers() {
		var b []byte
		for w := 1; w <= 8; w++ {
			b = octet.Put(b, n, w)
			b = octet.Put(b, ^n, 9-w)
		}
		if len(b) != 72 {
			t.Fatalf("P2.1: %d octets were put; want 72", len(b))
		}
		r := octet.New(b)
		for w := 1; w <= 8; w++ {
			checkTake(t, r, w, cut(n, w))
			checkTake(t, r, 9-w, cut(^n, 9-w))
		}
		checkTell(t, "all was taken", r, 0, true, false)
	}
}

// TestBackAndThere: octets that are taken are put back the same.
func TestBackAndThere(t *testing.T) {
	for w := 1; w <= 8; w++ {
		for lead := range 256 {
			b := []byte{byte(lead), 0, 255, 17, 128, 127, 1, 254}[:w]
			n, ok := octet.New(b).Take(w)
			if back := octet.Put(nil, n, w); !ok || !bytes.Equal(back, b) {
				t.Errorf("P2.3: %v is taken as %#x, %t, and put back as %v", b, n, ok, back)
			}
		}
	}
}

// plain is a reader that is nothing but what the promise says.
type plain struct {
	all []byte
	at  int
	bad bool
}

func (p *plain) take(n int, may bool) ([]byte, bool) {
	if p.bad || !may || n < 0 || n > len(p.all)-p.at {
		p.bad = true
		return nil, false
	}
	p.at += n
	return p.all[p.at-n : p.at], true
}

// ask is one call of a reader: Take, or else Bytes.
type ask struct {
	take bool
	n    int
}

// TestAllShortWays holds all ways of some calls, one behind the other, against a plain reader.
func TestAllShortWays(t *testing.T) {
	asks := []ask{{true, -1}, {true, 0}, {true, 1}, {true, 2}, {true, 3}, {true, 8}, {true, 9}, {false, -1}, {false, 0}, {false, 1}, {false, 2}, {false, 7}}
	all := []byte{0x80, 1, 0, 0xff, 0x7f, 9, 8, 7, 6}
	for size := range len(all) + 1 {
		for way := range len(asks) * len(asks) * len(asks) {
			r, p := octet.New(all[:size]), &plain{all: all[:size]}
			k := way
			for range 3 {
				checkAsk(t, r, p, asks[k%len(asks)])
				k /= len(asks)
			}
		}
	}
}

func checkAsk(t *testing.T, r *octet.Reader, p *plain, a ask) {
	t.Helper()
	want, ok := p.take(a.n, !a.take || a.n >= 1 && a.n <= 8)
	number := uint64(0)
	for _, o := range want {
		number = number*256 + uint64(o)
	}
	switch {
	case a.take && ok:
		checkTake(t, r, a.n, number)
	case a.take:
		checkNoTake(t, "a short way", r, a.n)
	case ok:
		checkBytes(t, r, a.n, want)
	default:
		checkNoBytes(t, "a short way", r, a.n)
	}
	left := len(p.all) - p.at
	if p.bad {
		left = 0
	}
	checkTell(t, "a short way", r, left, left == 0 && !p.bad, p.bad)
}
