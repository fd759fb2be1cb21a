package crc_test

import (
	"bytes"
	"hash/crc32"
	"math"
	"math/big"
	"slices"
	"testing"

	"countermand/crc"
)

// bits is what the chapter's words say, with a list of bits in place of a number, the lowest one first.
func bits(b []byte) uint32 {
	var n [32]bool
	for i := range n {
		n[i] = true
	}
	for _, o := range b {
		for i := range 8 {
			n[i] = n[i] != (o>>i&1 == 1)
		}
		for range 8 {
			gone := n[0]
			copy(n[:], n[1:])
			n[31] = false
			for i := range n {
				n[i] = n[i] != (gone && big.NewInt(0xedb88320).Bit(i) == 1)
			}
		}
	}
	sum := uint32(0)
	for i, one := range n {
		if !one {
			sum |= 1 << i
		}
	}
	return sum
}

// samples are octets of many lengths, without and with noughts ahead and behind.
func samples() [][]byte {
	l := [][]byte{nil, {}, {0}, {0, 0}, {0, 0, 0, 0}, {255}, {255, 255, 255, 255}, []byte("123456789"), {0x20, 0x83, 0xb8, 0xed}}
	for o := range 256 {
		l = append(l, []byte{byte(o)}, []byte{0, byte(o), 0}, []byte{byte(o), 1, 2, 3, 4, byte(255 - o)})
	}
	for n := 2; n < 80; n++ {
		l = append(l, long(n))
	}
	return append(l, long(1000), long(4096), make([]byte, 300))
}

// long is n octets, of all kinds.
func long(n int) []byte {
	b := make([]byte, n)
	for i := range b {
		b[i] = byte(i*i*7 + i*13 + n)
	}
	return b
}

// tail is the sum in four octets, the highest first.
func tail(sum uint32) []byte {
	return []byte{byte(sum >> 24), byte(sum >> 16), byte(sum >> 8), byte(sum)}
}

// signed is b with its right sum, by the tests' own reckoning.
func signed(b []byte) []byte {
	return slices.Concat(b, tail(crc32.ChecksumIEEE(b)))
}

// flip is b with one bit turned.
func flip(b []byte, bit int) []byte {
	l := slices.Clone(b)
	l[bit/8] ^= 1 << (bit % 8)
	return l
}

func checkSum(t *testing.T, what string, got uint32, want uint32) {
	t.Helper()
	if got != want {
		t.Errorf("P3.1: %s = %#08x; want %#08x", what, got, want)
	}
}

// checkRight holds a Check that should go well.
func checkRight(t *testing.T, b []byte, want []byte) {
	t.Helper()
	if got, ok := crc.Check(b); !bytes.Equal(got, want) || !ok {
		t.Errorf("P3.1: Check(%v) = %v, %t; want %v, true", b, got, ok, want)
	}
}

// checkWrong holds a Check that should not.
func checkWrong(t *testing.T, what string, b []byte) {
	t.Helper()
	if got, ok := crc.Check(b); len(got) != 0 || ok {
		t.Errorf("%s: Check(%v) = %v, %t; want nothing, false", what, b, got, ok)
	}
}

func TestExamples(t *testing.T) {
	checkSum(t, "Sum of 123456789", crc.Sum([]byte("123456789")), 0xcbf43926)
	checkSum(t, "Sum of nothing", crc.Sum(), 0)
}

func TestSumOfNothing(t *testing.T) {
	checkSum(t, "Sum()", crc.Sum(), 0)
	checkSum(t, "Sum of no list", crc.Sum([][]byte(nil)...), 0)
	checkSum(t, "Sum of an empty list", crc.Sum([][]byte{}...), 0)
	checkSum(t, "Sum(nil)", crc.Sum(nil), 0)
	checkSum(t, "Sum of an empty part", crc.Sum([]byte{}), 0)
	checkSum(t, "Sum of parts without octets", crc.Sum(nil, []byte{}, nil, make([]byte, 0, 9), []byte{1, 2}[:0]), 0)
}

func TestSumOfOne(t *testing.T) {
	for _, b := range samples() {
		checkSum(t, "Sum of one part, bit by bit", crc.Sum(b), bits(b))
		checkSum(t, "Sum of one part", crc.Sum(b), crc32.ChecksumIEEE(b))
	}
	// What lies behind a slice, in its room, does not count.
	checkSum(t, "Sum of a slice with room", crc.Sum([]byte("x123456789y")[1:10]), 0xcbf43926)
}

func TestSumOfParts(t *testing.T) {
	for _, b := range [][]byte{[]byte("123456789"), {0, 0, 0}, long(17), make([]byte, 12)} {
		want := crc32.ChecksumIEEE(b)
		for i := range len(b) + 1 {
			checkSum(t, "Sum of two parts", crc.Sum(b[:i], b[i:]), want)
			checkSum(t, "Sum with nil parts", crc.Sum(nil, b[:i], nil, []byte{}, b[i:], nil), want)
			for j := i; j <= len(b); j++ {
				checkSum(t, "Sum of three parts", crc.Sum(b[:i], b[i:j], b[j:]), want)
			}
		}
		checkSum(t, "Sum of an octet a part", crc.Sum(slices.Collect(slices.Chunk(b, 1))...), want)
	}
	// In their order, and each as often as it is told.
	a, b := []byte("order"), []byte("again")
	checkSum(t, "Sum(a, b)", crc.Sum(a, b), crc32.ChecksumIEEE([]byte("orderagain")))
	checkSum(t, "Sum(b, a)", crc.Sum(b, a), crc32.ChecksumIEEE([]byte("againorder")))
	checkSum(t, "Sum(a, a)", crc.Sum(a, a), crc32.ChecksumIEEE([]byte("orderorder")))
	checkSum(t, "Sum(a, b, a)", crc.Sum(a, b, a), crc32.ChecksumIEEE([]byte("orderagainorder")))
}

func TestMore(t *testing.T) {
	checkSum(t, "More of nothing, and nothing", crc.More(0, nil), 0)
	checkSum(t, "More of nothing, and empty", crc.More(0, []byte{}), 0)
	checkSum(t, "More of nothing", crc.More(0, []byte("123456789")), 0xcbf43926)
	for _, b := range samples() {
		checkSum(t, "More behind nothing", crc.More(0, b), crc32.ChecksumIEEE(b))
		for _, i := range []int{0, 1, 2, len(b) / 2, len(b) - 1, len(b)} {
			if i < 0 || i > len(b) {
				continue
			}
			checkSum(t, "More", crc.More(crc32.ChecksumIEEE(b[:i]), b[i:]), crc32.ChecksumIEEE(b))
		}
	}
}

// TestMoreOfAnySum: whatever sum is told, there are octets that have it.
func TestMoreOfAnySum(t *testing.T) {
	sums := []uint32{0, 1, math.MaxUint32, math.MaxUint32 - 1, 1 << 31, 1<<31 - 1, 0xedb88320, 0xcbf43926, 0x12345678}
	for bit := range 32 {
		sums = append(sums, 1<<bit, ^uint32(1<<bit))
	}
	for _, s := range sums {
		checkSum(t, "More of no more octets", crc.More(s, nil), s)
		checkSum(t, "More of no more octets", crc.More(s, []byte{}), s)
		for _, b := range samples() {
			checkSum(t, "More of any sum", crc.More(s, b), crc32.Update(s, crc32.IEEETable, b))
		}
	}
}

func TestPut(t *testing.T) {
	for _, x := range []struct{ b, want []byte }{
		{nil, []byte{0, 0, 0, 0}},
		{[]byte{}, []byte{0, 0, 0, 0}},
		{[]byte("123456789"), []byte("123456789\xcb\xf4\x39\x26")},
		{[]byte{0}, []byte{0, 0xd2, 0x02, 0xef, 0x8d}},
		{[]byte("x123456789y")[1:10], []byte("123456789\xcb\xf4\x39\x26")},
	} {
		if got := crc.Put(x.b); !bytes.Equal(got, x.want) {
			t.Errorf("P3.1: Put(%v) = %v; want %v", x.b, got, x.want)
		}
	}
	for _, b := range samples() {
		if got := crc.Put(b); !bytes.Equal(got, signed(b)) {
			t.Errorf("P3.1: Put(%v) = %v; want %v", b, got, signed(b))
		}
		if got := crc.Put(crc.Put(b)); !bytes.Equal(got, signed(signed(b))) {
			t.Errorf("P3.1: Put of what Put answers for %v = %v; want %v", b, got, signed(signed(b)))
		}
	}
}

func TestCheck(t *testing.T) {
	checkRight(t, []byte{0, 0, 0, 0}, nil)
	checkRight(t, []byte("123456789\xcb\xf4\x39\x26"), []byte("123456789"))
	checkRight(t, []byte("x123456789\xcb\xf4\x39\x26y")[1:14], []byte("123456789"))
	for _, b := range samples() {
		checkRight(t, signed(b), b)
		checkRight(t, crc.Put(b), b)
	}
}

func TestCheckOfTooFew(t *testing.T) {
	for _, b := range [][]byte{nil, {}, {0}, {0, 0}, {0, 0, 0}, {1, 2, 3}, {255, 255, 255}, make([]byte, 3, 9), make([]byte, 9)[:3]} {
		checkWrong(t, "P3.1: too few octets", b)
	}
}

func TestCheckOfFour(t *testing.T) {
	for i := range 4 {
		for o := 1; o < 256; o++ {
			b := make([]byte, 4)
			b[i] = byte(o)
			checkWrong(t, "P3.1: four octets that are not the sum of nothing", b)
		}
	}
	checkWrong(t, "P3.1: four octets that are not the sum of nothing", []byte{255, 255, 255, 255})
}

func TestCheckOfWrongSum(t *testing.T) {
	for _, b := range [][]byte{nil, {0}, []byte("123456789"), long(30)} {
		right := signed(b)
		for i := len(b); i < len(right); i++ {
			for o := 1; o < 256; o++ {
				wrong := slices.Clone(right)
				wrong[i] ^= byte(o)
				checkWrong(t, "P3.1: wrong in one octet of the sum", wrong)
			}
		}
		sum := crc32.ChecksumIEEE(b)
		checkWrong(t, "P3.1: its bits turned", slices.Concat(b, tail(^sum)))
		if len(b) > 0 {
			back := tail(sum)
			slices.Reverse(back)
			checkWrong(t, "P3.1: the lowest octet first", slices.Concat(b, back))
			checkWrong(t, "P3.1: the sum ahead", slices.Concat(tail(sum), b))
			checkWrong(t, "P3.1: one octet gone", right[1:])
			checkWrong(t, "P3.1: the last octet gone", right[:len(right)-1])
			checkWrong(t, "P3.1: one octet more", append(slices.Clone(right), 1))
		}
	}
}

func TestOneBitTurned(t *testing.T) {
	for _, b := range samples() {
		if len(b) > 500 {
			continue
		}
		sum, right := crc.Sum(b), crc.Put(b)
		for bit := range 8 * len(b) {
			if crc.Sum(flip(b, bit)) == sum {
				t.Errorf("P3.2: bit %d of %v turned: the sum is the same", bit, b)
			}
		}
		for bit := range 8 * len(right) {
			checkWrong(t, "P3.2: one bit turned", flip(right, bit))
		}
	}
}

// checkKept holds that nothing of what was handed in, or of another answer, was changed.
func checkKept(t *testing.T, what string, got []byte, want []byte) {
	t.Helper()
	if !bytes.Equal(got, want) {
		t.Errorf("P2: %s: %v; want %v", what, got, want)
	}
}

// fill writes into all the room of b, as one who appends to it may.
func fill(b []byte, o byte) {
	b = b[:cap(b)]
	for i := range b {
		b[i] = o
	}
}

func TestSumsChangeNothing(t *testing.T) {
	all := []byte("abcdefgh")
	parts := [][]byte{all[:3], nil, all[3:5], {}}
	one := crc.Sum(parts...)
	more := crc.More(one, all[:3])
	checkKept(t, "what Sum and More were handed", all, []byte("abcdefgh"))
	if len(parts) != 4 || !bytes.Equal(parts[0], []byte("abc")) || parts[1] != nil || !bytes.Equal(parts[2], []byte("de")) || parts[3] == nil {
		t.Errorf("P2: Sum changed its parts: %v", parts)
	}
	fill(all, 'x')
	if two := crc.Sum([]byte("abcde")); two != one || crc.More(two, []byte("abc")) != more {
		t.Error("P2: what Sum and More answer hangs on what they were handed ahead")
	}
}

func TestPutAndCheckAreOfTheirOwn(t *testing.T) {
	for name, call := range map[string]func([]byte) []byte{
		"Put":   crc.Put,
		"Check": func(b []byte) []byte { l, _ := crc.Check(b); return l },
	} {
		for _, room := range []int{0, 3, 4, 20} {
			all := slices.Concat(signed([]byte("given")), bytes.Repeat([]byte{0xee}, room))
			given := slices.Clone(all)
			b := all[:9]
			one, two := call(b), call(b)
			first, second := slices.Clone(one), slices.Clone(two)
			if !bytes.Equal(first, second) {
				t.Errorf("P3: %s answers %v, and then %v", name, first, second)
			}
			checkKept(t, name+": what it was handed, and what lies behind", all, given)
			fill(one, 0x55)
			checkKept(t, name+": another answer", two, second)
			checkKept(t, name+": what it was handed, and what lies behind", all, given)
			fill(all, 0x77)
			checkKept(t, name+": an answer, when what was handed in is changed", two, second)
		}
	}
}
