package frame_test

import (
	"bytes"
	"encoding/binary"
	"hash/crc32"
	"math"
	"slices"
	"testing"

	"countermand/api"
	"countermand/frame"
)

// made is what the chapter's words say of a frame, for as many octets as its count can tell.
func made(b []byte) []byte {
	return mixed(len(b), b, crc32.ChecksumIEEE(b), 0x5a)
}

// mixed is a frame's parts, right or wrong.
func mixed(count int, b []byte, sum uint32, end byte) []byte {
	l := binary.BigEndian.AppendUint16(nil, uint16(count))
	l = append(l, b...)
	l = binary.BigEndian.AppendUint32(l, sum)
	return append(l, end)
}

// long is n octets, of all kinds.
func long(n int) []byte {
	b := make([]byte, n)
	for i := range b {
		b[i] = byte(i*i*5 + i*11 + n)
	}
	return b
}

// samples are what frames may have: ordinary octets, noughts, ends of frames, and frames.
func samples() [][]byte {
	l := [][]byte{
		[]byte("order"), {0, 0}, {0, 0, 0, 0, 0, 0, 0, 0, 0}, {0x5a}, bytes.Repeat([]byte{0x5a}, 40), {0xff, 0xff, 0xff, 0xff},
		made([]byte{1}), made(made([]byte("again"))), slices.Concat(made([]byte{0}), made([]byte{2, 3})), {0, 1}, make([]byte, 256),
	}
	for o := range 256 {
		l = append(l, []byte{byte(o)})
	}
	for n := 2; n < 40; n++ {
		l = append(l, long(n))
	}
	return append(l, long(255), long(256), long(257), long(1000), long(4095), long(4096), make([]byte, 4096))
}

// checkNone holds a Get of octets that begin with no frame, and that All finds none there either.
func checkNone(t *testing.T, what string, b []byte) {
	t.Helper()
	if got, n, ok := frame.Get(b); len(got) != 0 || n != 0 || ok {
		t.Errorf("P4.1: %s: Get(%v) = %v, %d, %t; want nothing, 0, false", what, b, got, n, ok)
	}
	checkAll(t, "P4.1: "+what, b, nil, 0)
}

// checkFound holds a Get of octets that begin with the frame of want.
func checkFound(t *testing.T, what string, b []byte, want []byte) {
	t.Helper()
	if got, n, ok := frame.Get(b); !bytes.Equal(got, want) || n != len(want)+7 || !ok {
		t.Errorf("P4.1: %s: Get(%v) = %v, %d, %t; want %v, %d, true", what, b, got, n, ok, want, len(want)+7)
	}
}

// checkAll holds what All finds, and how many octets that takes.
func checkAll(t *testing.T, what string, b []byte, want [][]byte, octets int) {
	t.Helper()
	if got, n := frame.All(b); !slices.EqualFunc(got, want, bytes.Equal) || n != octets {
		t.Errorf("%s: All(%v) = %v, %d; want %v, %d", what, b, got, n, want, octets)
	}
}

func TestExample(t *testing.T) {
	b, e := frame.Put([]byte{7})
	if len(b) != 8 || e != api.OK || frame.Size(1) != 8 {
		t.Errorf("P4.1: of one octet: %v, %d, and Size %d; want eight octets", b, e, frame.Size(1))
	}
}

func TestPut(t *testing.T) {
	for _, x := range []struct{ b, want []byte }{
		{[]byte("123456789"), []byte("\x00\x09123456789\xcb\xf4\x39\x26\x5a")},
		{[]byte{0}, []byte{0, 1, 0, 0xd2, 0x02, 0xef, 0x8d, 0x5a}},
		{[]byte("x123456789y")[1:10], []byte("\x00\x09123456789\xcb\xf4\x39\x26\x5a")},
	} {
		if got, e := frame.Put(x.b); !bytes.Equal(got, x.want) || e != api.OK {
			t.Errorf("P4.1: Put(%v) = %v, %d; want %v", x.b, got, e, x.want)
		}
	}
	for _, b := range samples() {
		if got, e := frame.Put(b); !bytes.Equal(got, made(b)) || e != api.OK {
			t.Errorf("P4.1: Put(%v) = %v, %d; want %v", b, got, e, made(b))
		}
	}
}

func TestPutOfTooFewOrTooMany(t *testing.T) {
	for _, x := range []struct {
		b    []byte
		want api.Errno
	}{
		{nil, api.ErrRange},
		{[]byte{}, api.ErrRange},
		{make([]byte, 0, 9), api.ErrRange},
		{[]byte{1, 2}[:0], api.ErrRange},
		{make([]byte, api.MaxFrame+1), api.ErrLong},
		{long(api.MaxFrame + 2), api.ErrLong},
		{make([]byte, 1<<16), api.ErrLong},
		{make([]byte, 1<<16+1), api.ErrLong},
	} {
		if got, e := frame.Put(x.b); len(got) != 0 || e != x.want {
			t.Errorf("P4.1: Put of %d octets = %v, %d; want nothing, %d", len(x.b), got, e, x.want)
		}
	}
	for _, n := range []int{1, api.MaxFrame - 1, api.MaxFrame} {
		if got, e := frame.Put(long(n)); len(got) != n+7 || e != api.OK {
			t.Errorf("P4.1: Put of %d octets: %d octets, %d; want %d, 0", n, len(got), e, n+7)
		}
	}
}

func TestSize(t *testing.T) {
	for n := 1; n <= api.MaxFrame; n++ {
		b, e := frame.Put(long(n))
		if got := frame.Size(n); got != n+7 || got != len(b) || e != api.OK {
			t.Errorf("P4.1: Size(%d) = %d, and the frame has %d octets, %d; want %d", n, got, len(b), e, n+7)
		}
	}
	for _, n := range []int{0, -1, -2, -7, -8, api.MaxFrame + 1, api.MaxFrame + 2, 1 << 16, 1<<16 + 1, 1 << 32, 1<<32 + 1, -1<<32 + 1,
		math.MaxInt, math.MaxInt - 1, math.MaxInt - 7, math.MinInt, math.MinInt + 1} {
		if got := frame.Size(n); got != 0 {
			t.Errorf("P4.1: Size(%d) = %d; want 0", n, got)
		}
	}
}

func TestGet(t *testing.T) {
	for _, b := range samples() {
		whole := made(b)
		checkFound(t, "a frame alone", whole, b)
		checkFound(t, "another frame behind it", slices.Concat(whole, made([]byte("more"))), b)
		checkFound(t, "the same frame behind it", slices.Concat(whole, whole), b)
		for _, more := range [][]byte{{0}, {0x5a}, {0, 1}, make([]byte, 32), long(30)} {
			checkFound(t, "octets behind it", slices.Concat(whole, more), b)
		}
		if put, _ := frame.Put(b); !bytes.Equal(put, whole) {
			t.Errorf("P4.1: Put(%v) = %v; want %v", b, put, whole)
		}
	}
	checkFound(t, "a piece of a list", append([]byte{9}, made([]byte("order"))...)[1:], []byte("order"))
}

func TestGetOfNone(t *testing.T) {
	for _, b := range [][]byte{nil, {}, make([]byte, 0, 9), {0}, {1}, {0x5a}, {0, 0}, {0, 1}, {0, 1, 2}, {0xff, 0xff}, make([]byte, 8), make([]byte, 5000), long(50), []byte("no frame at all")} {
		checkNone(t, "octets that begin with no frame", b)
	}
	whole := made([]byte("order"))
	checkNone(t, "an octet ahead of it", append([]byte{0}, whole...))
	checkNone(t, "without its first octet", whole[1:])
}

func TestGetOfCut(t *testing.T) {
	for _, b := range samples() {
		whole := made(b)
		for n := range whole {
			if len(whole) < 500 || n < 9 || n > len(whole)-9 {
				checkNone(t, "one that lacks its last octets", whole[:n])
			}
		}
	}
	// What lies behind a slice, in its room, does not count.
	whole := made([]byte("order"))
	checkNone(t, "a whole one in the room behind", whole[:0])
	checkNone(t, "its last octet in the room behind", whole[:len(whole)-1])
}

func TestGetOfWrongOctet(t *testing.T) {
	for _, b := range [][]byte{{0}, {0x5a}, []byte("order"), make([]byte, 20), bytes.Repeat([]byte{0x5a}, 300), long(257)} {
		whole := slices.Concat(made(b), made(long(5)), make([]byte, 40))
		for i := range len(b) + 7 {
			for _, turn := range []byte{1, 2, 4, 8, 16, 32, 64, 128, 255, 0x5a} {
				wrong := slices.Clone(whole)
				wrong[i] ^= turn
				checkNone(t, "wrong in one octet", wrong)
			}
		}
	}
}

func TestGetOfWrongPart(t *testing.T) {
	for _, b := range [][]byte{{0}, {0x5a}, []byte("order"), make([]byte, 20), bytes.Repeat([]byte{0x5a}, 300)} {
		sum := crc32.ChecksumIEEE(b)
		right := mixed(len(b), b, sum, 0x5a)
		back := slices.Clone(right)
		slices.Reverse(back[len(b)+2 : len(b)+6])
		for _, x := range []struct {
			what string
			b    []byte
		}{
			{"one octet too many told", mixed(len(b)+1, b, sum, 0x5a)},
			{"one octet too few told", mixed(len(b)-1, b, sum, 0x5a)},
			{"the count's lowest octet first", mixed(len(b)%256<<8|len(b)/256, b, sum, 0x5a)},
			{"the frame's octets counted", mixed(len(right), b, sum, 0x5a)},
			{"the sum's bits turned", mixed(len(b), b, ^sum, 0x5a)},
			{"one more than the sum", mixed(len(b), b, sum+1, 0x5a)},
			{"no sum", mixed(len(b), b, 0, 0x5a)},
			{"the sum of the count, too", mixed(len(b), b, crc32.ChecksumIEEE(right[:len(b)+2]), 0x5a)},
			{"the sum's lowest octet first", back},
			{"the last octet 0", mixed(len(b), b, sum, 0)},
			{"the last octet 0x5b", mixed(len(b), b, sum, 0x5b)},
			{"the last octet 0xa5", mixed(len(b), b, sum, 0xa5)},
			{"no last octet, and 0 behind it", append(slices.Clone(right[:len(right)-1]), 0)},
			{"the last octet one place late", append(slices.Clone(right[:len(right)-1]), 0, 0x5a)},
		} {
			checkNone(t, x.what, x.b)
			checkNone(t, x.what+", and more behind it", slices.Concat(x.b, []byte{0x5a}, right))
		}
		for end := range 256 {
			if end != 0x5a {
				checkNone(t, "the last octet wrong", mixed(len(b), b, sum, byte(end)))
			}
		}
	}
}

// TestGetOfCountThatMayNotBe: all else is right.
func TestGetOfCountThatMayNotBe(t *testing.T) {
	checkNone(t, "0 octets", made(nil))
	checkNone(t, "0 octets, and a frame behind", slices.Concat(made(nil), made([]byte{1})))
	for _, n := range []int{api.MaxFrame + 1, api.MaxFrame + 2, 2 * api.MaxFrame, 1<<15 - 1, 1 << 15, 1<<16 - 1} {
		checkNone(t, "more than MaxFrame octets", made(long(n)))
	}
	checkFound(t, "MaxFrame octets", made(long(api.MaxFrame)), long(api.MaxFrame))
	checkFound(t, "one octet", made([]byte{0}), []byte{0})
}

func TestAll(t *testing.T) {
	checkAll(t, "P4.1: of none", nil, nil, 0)
	checkAll(t, "P4.1: of none", []byte{}, nil, 0)
	for _, b := range samples() {
		checkAll(t, "P4.1: of one", made(b), [][]byte{b}, len(b)+7)
		checkAll(t, "P4.1: of two", slices.Concat(made(b), made([]byte{9})), [][]byte{b, {9}}, len(b)+15)
	}
	var list [][]byte
	var b []byte
	for _, l := range samples() {
		list = append(list, l)
		b = append(b, made(l)...)
		if len(list)%40 == 1 {
			checkAll(t, "P4.1: of several", b, list, len(b))
		}
	}
	checkAll(t, "P4.1: of several", b, list, len(b))
}

func TestAllWithNoneBehind(t *testing.T) {
	list := [][]byte{[]byte("order"), {0}, {0x5a, 0x5a}}
	b := slices.Concat(made(list[0]), made(list[1]), made(list[2]))
	last := made([]byte("last"))
	for _, more := range [][]byte{{0}, {0x5a}, {0, 4}, make([]byte, 64), long(64), last[:len(last)-1], last[1:], made(nil), made(long(api.MaxFrame + 1)),
		mixed(4, []byte("last"), 7, 0x5a), mixed(4, []byte("last"), crc32.ChecksumIEEE([]byte("last")), 0)} {
		checkAll(t, "P4.1: behind them none", slices.Concat(b, more), list, len(b))
		// What comes behind that is no longer one of those that follow one another.
		checkAll(t, "P4.1: behind them none, and then one", slices.Concat(b, more, last), list, len(b))
		checkAll(t, "P4.1: none, and then several", slices.Concat(more, b), nil, 0)
	}
}

// checkCut holds what is found of frames that were cut at every place in cuts, and filled up.
func checkCut(t *testing.T, list [][]byte, cuts func(n int) bool) {
	t.Helper()
	var b []byte
	var ends []int
	for _, l := range list {
		b = append(b, made(l)...)
		ends = append(ends, len(b))
	}
	for n := range len(b) + 1 {
		if !cuts(n) {
			continue
		}
		whole, octets := 0, 0
		for whole < len(ends) && ends[whole] <= n {
			octets = ends[whole]
			whole++
		}
		for _, fill := range []int{0, 1, 2, 7, 8, 32, len(b) - n, len(b) - n + 32, api.MaxFrame + 32} {
			checkAll(t, "P4.2", slices.Concat(b[:n], make([]byte, fill)), list[:whole], octets)
		}
	}
}

func TestCutAndFilledUp(t *testing.T) {
	everywhere := func(int) bool { return true }
	for _, list := range [][][]byte{
		{{0}},
		{{0x5a}},
		{{0}, {0}, {0}},
		{make([]byte, 9), {1}, make([]byte, 4)},
		{[]byte("order"), bytes.Repeat([]byte{0x5a}, 20), {1}},
		{made([]byte{1}), made(made([]byte("in two"))), {0, 0, 0x5a}},
		{slices.Concat(made([]byte{0}), made([]byte{0})), {7}},
		{make([]byte, 256), long(257), {255}},
		// The sum of these four is 0.
		{{0x9d, 0x0a, 0xd9, 0x6d}, {0x9d, 0x0a, 0xd9, 0x6d}},
	} {
		checkCut(t, list, everywhere)
	}
	for _, l := range samples() {
		if len(l) < 50 {
			checkCut(t, [][]byte{l}, everywhere)
		}
	}
	checkCut(t, [][]byte{{1}, long(api.MaxFrame), {2}}, func(n int) bool {
		return n < 20 || n%501 == 0 || n > api.MaxFrame
	})
}

// TestCutBehindNoughts: a sum that ends in noughts is told by them whether they are left or filled up; only the last octet is not.
func TestCutBehindNoughts(t *testing.T) {
	found := 0
	for n := range 1 << 16 {
		l := []byte{byte(n >> 8), byte(n), 3}
		if crc32.ChecksumIEEE(l)&0xff == 0 {
			checkCut(t, [][]byte{l, l}, func(int) bool { return true })
			found++
		}
		if found == 20 {
			return
		}
	}
	t.Error("P4.2: no sums that end in noughts to try it with")
}

// fill writes into all the room of b, as one who appends to it may.
func fill(b []byte, o byte) {
	b = b[:cap(b)]
	for i := range b {
		b[i] = o
	}
}

// calls are the calls that answer octets, each answer as lists.
func calls() map[string]func([]byte) [][]byte {
	return map[string]func([]byte) [][]byte{
		"Put": func(b []byte) [][]byte { l, _ := frame.Put(b); return [][]byte{l} },
		"Get": func(b []byte) [][]byte { l, _, _ := frame.Get(b); return [][]byte{l} },
		"All": func(b []byte) [][]byte { l, _ := frame.All(b); return l },
	}
}

func checkKept(t *testing.T, what string, got []byte, want []byte) {
	t.Helper()
	if !bytes.Equal(got, want) {
		t.Errorf("P2: %s: %v; want %v", what, got, want)
	}
}

func TestAnswersAreOfTheirOwn(t *testing.T) {
	frames := slices.Concat(made([]byte("order")), made([]byte{0}), made(long(30)))
	for name, call := range calls() {
		for _, room := range []int{0, 1, 5, 7, 40} {
			all := slices.Concat(frames, bytes.Repeat([]byte{0xee}, room))
			given := slices.Clone(all)
			b := all[:len(frames)]
			one, two := call(b), call(b)
			want := slices.Concat(two...)
			if !bytes.Equal(slices.Concat(one...), want) || len(want) == 0 {
				t.Errorf("P3: %s answers %v, and then %v", name, one, two)
			}
			checkKept(t, name+": what it was handed, and what lies behind", all, given)
			for _, l := range one {
				fill(l, 0x55)
			}
			checkKept(t, name+": another answer", slices.Concat(two...), want)
			checkKept(t, name+": what it was handed, and what lies behind", all, given)
			fill(all, 0x77)
			checkKept(t, name+": an answer, when what was handed in is changed", slices.Concat(two...), want)
		}
	}
}

// TestListsOfOneAnswer: no two lists of what All answers share memory.
func TestListsOfOneAnswer(t *testing.T) {
	list := [][]byte{[]byte("order"), {0}, long(30)}
	got, _ := frame.All(slices.Concat(made(list[0]), made(list[1]), made(list[2])))
	for i := range got {
		for j := range got {
			if j > i {
				checkKept(t, "another list of the answer", got[j], list[j])
			}
		}
		fill(got[i], 0x55)
	}
	again, _ := frame.All(slices.Concat(made(list[2]), made(list[1]), made(list[0])))
	for i := len(again) - 1; i >= 0; i-- {
		checkKept(t, "another list of the answer", again[i], list[2-i])
		fill(again[i], 0x55)
	}
}
