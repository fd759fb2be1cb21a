package change_test

import (
	"bytes"
	"encoding/binary"
	"math"
	"math/rand"
	"slices"
	"testing"

	"countermand/api"
	"countermand/change"
)

const (
	least    = math.MinInt
	greatest = math.MaxInt
	size     = 22
	end      = 0x43
	maxTime  = 1 << 30
	maxSeq   = 65535
	// most is how many changes a list may have.
	most = 48
)

// plainChange is a change that may be, each part unlike all others.
func plainChange() api.Change {
	return api.Change{
		Id:   api.Id{Replica: 2, Seq: 0x0304},
		Time: 0x05060708,
		Kind: 9,
		A:    10,
		B:    11,
		N:    0x1213141516171819,
		Ref:  api.Id{Replica: 20, Seq: 0x2122},
	}
}

// plainOctets are plainChange's octets, written out.
func plainOctets() []byte {
	return []byte{2, 3, 4, 5, 6, 7, 8, 9, 10, 11, 0x12, 0x13, 0x14, 0x15, 0x16, 0x17, 0x18, 0x19, 20, 0x21, 0x22, 0x43}
}

// part is one part of a change: what it is called, from what to what it may be, and how it is set.
type part struct {
	name   string
	lo, hi int
	set    func(c *api.Change, n int)
}

// parts are all of a change but N, which may be anything.
func parts() []part {
	return []part{
		{"Id.Replica", 0, 3, func(c *api.Change, n int) { c.Id.Replica = n }},
		{"Id.Seq", 1, maxSeq, func(c *api.Change, n int) { c.Id.Seq = n }},
		{"Time", 1, maxTime, func(c *api.Change, n int) { c.Time = n }},
		{"Kind", 0, 255, func(c *api.Change, n int) { c.Kind = n }},
		{"A", 0, 255, func(c *api.Change, n int) { c.A = n }},
		{"B", 0, 255, func(c *api.Change, n int) { c.B = n }},
		{"Ref.Replica", 0, 255, func(c *api.Change, n int) { c.Ref.Replica = n }},
		{"Ref.Seq", 0, maxSeq, func(c *api.Change, n int) { c.Ref.Seq = n }},
	}
}

// numbers are such as lie at the edges of any part, or have lower bits that may be.
func numbers() []int {
	return []int{
		least, least + 1, -1 << 32, -1<<32 + 1, -maxTime, -maxSeq - 1, -256, -255, -4, -3, -2, -1, 0, 1, 2, 3, 4, 5,
		127, 128, 254, 255, 256, 257, 258, maxSeq - 1, maxSeq, maxSeq + 1, maxSeq + 2, 1 << 24,
		maxTime - 1, maxTime, maxTime + 1, 1<<31 - 1, 1 << 31, 1<<32 - 1, 1 << 32, 1<<32 + 1, greatest - 1, greatest,
	}
}

// with is plainChange with n as that part alone.
func with(p part, n int) api.Change {
	c := plainChange()
	p.set(&c, n)
	return c
}

// withN is plainChange with that N.
func withN(n int64) api.Change {
	c := plainChange()
	c.N = n
	return c
}

// may tells by the parts' bounds, each looked at apart, whether c may be.
func may(c api.Change) bool {
	bad := c.Id.Replica < 0 || c.Id.Replica > 3 || c.Id.Seq < 1 || c.Id.Seq > maxSeq || c.Time < 1 || c.Time > maxTime
	bad = bad || c.Kind < 0 || c.Kind > 255 || c.A < 0 || c.A > 255 || c.B < 0 || c.B > 255
	return !bad && c.Ref.Replica >= 0 && c.Ref.Replica <= 255 && c.Ref.Seq >= 0 && c.Ref.Seq <= maxSeq
}

// octetsOf is c's octets by a library's means.
func octetsOf(c api.Change) []byte {
	b := []byte{byte(c.Id.Replica)}
	b = binary.BigEndian.AppendUint16(b, uint16(c.Id.Seq))
	b = binary.BigEndian.AppendUint32(b, uint32(c.Time))
	b = append(b, byte(c.Kind), byte(c.A), byte(c.B))
	b = binary.BigEndian.AppendUint64(b, uint64(c.N))
	b = append(b, byte(c.Ref.Replica))
	b = binary.BigEndian.AppendUint16(b, uint16(c.Ref.Seq))
	return append(b, end)
}

// changeOf is what the octets say by a library's means; there are 22.
func changeOf(b []byte) api.Change {
	return api.Change{
		Id:   api.Id{Replica: int(b[0]), Seq: int(binary.BigEndian.Uint16(b[1:]))},
		Time: int(binary.BigEndian.Uint32(b[3:])),
		Kind: int(b[7]),
		A:    int(b[8]),
		B:    int(b[9]),
		N:    int64(binary.BigEndian.Uint64(b[10:])),
		Ref:  api.Id{Replica: int(b[18]), Seq: int(binary.BigEndian.Uint16(b[19:]))},
	}
}

// allOf is what a list that may be is told as.
func allOf(l []api.Change) []byte {
	b := []byte{byte(len(l))}
	for _, c := range l {
		b = append(b, octetsOf(c)...)
	}
	return b
}

// someChange is a change that may be, by chance.
func someChange(random *rand.Rand) api.Change {
	return api.Change{
		Id:   api.Id{Replica: random.Intn(4), Seq: 1 + random.Intn(maxSeq)},
		Time: 1 + random.Intn(maxTime),
		Kind: random.Intn(256),
		A:    random.Intn(256),
		B:    random.Intn(256),
		N:    int64(random.Uint64()),
		Ref:  api.Id{Replica: random.Intn(256), Seq: random.Intn(maxSeq + 1)},
	}
}

// someChanges are n changes that may be, each time the same.
func someChanges(n int) []api.Change {
	random := rand.New(rand.NewSource(int64(900 + n)))
	l := []api.Change{}
	for range n {
		l = append(l, someChange(random))
	}
	return l
}

// goodChanges are changes that may be: at all edges, and others.
func goodChanges() []api.Change {
	l := []api.Change{
		plainChange(),
		{Id: api.Id{Seq: 1}, Time: 1},
		{Id: api.Id{Replica: 3, Seq: maxSeq}, Time: maxTime, Kind: 255, A: 255, B: 255, N: math.MaxInt64, Ref: api.Id{Replica: 255, Seq: maxSeq}},
		{Id: api.Id{Replica: 3, Seq: maxSeq}, Time: maxTime, Kind: 255, A: 255, B: 255, N: -1, Ref: api.Id{Replica: 255, Seq: maxSeq}},
	}
	for _, p := range parts() {
		for _, n := range numbers() {
			if n >= p.lo && n <= p.hi {
				l = append(l, with(p, n))
			}
		}
	}
	for _, n := range manyN() {
		l = append(l, withN(n))
	}
	return append(l, someChanges(200)...)
}

// manyN are numbers of all kinds that N may be.
func manyN() []int64 {
	l := []int64{math.MinInt64, math.MinInt64 + 1, -1 << 32, -257, -256, -255, -2, -1, 0, 1, 2, 255, 256, 1<<32 - 1, 1 << 32, math.MaxInt64 - 1, math.MaxInt64}
	for i := range 64 {
		l = append(l, 1<<i, ^(1 << i))
	}
	return l
}

// badChanges are changes that may not be: each with one part out of its bounds, and some with more.
func badChanges() []api.Change {
	l := []api.Change{{}, {Id: api.Id{Seq: 1}}, {Time: 1}, {Id: api.Id{Replica: -1, Seq: -1}, Time: -1, Kind: -1, A: -1, B: -1, N: -1, Ref: api.Id{Replica: -1, Seq: -1}}}
	for _, p := range parts() {
		for _, n := range numbers() {
			if n < p.lo || n > p.hi {
				l = append(l, with(p, n))
			}
		}
	}
	return l
}

func checkPut(t *testing.T, c api.Change, want []byte) {
	t.Helper()
	if got, e := change.Put(c); e != api.OK || !bytes.Equal(got, want) {
		t.Errorf("P9.1: Put(%v) = %v, %d; want %v", c, got, e, want)
	}
}

func checkNoPut(t *testing.T, c api.Change) {
	t.Helper()
	if got, e := change.Put(c); e != api.ErrRange || len(got) != 0 {
		t.Errorf("P9.1: Put(%v) = %v, %d; want nothing, %d", c, got, e, api.ErrRange)
	}
}

func checkGet(t *testing.T, b []byte, want api.Change) {
	t.Helper()
	if got, e := change.Get(b); e != api.OK || got != want {
		t.Errorf("P9.1: Get(%v) = %v, %d; want %v", b, got, e, want)
	}
}

func checkNoGet(t *testing.T, why string, b []byte) {
	t.Helper()
	if got, e := change.Get(b); e != api.ErrSyntax || got != (api.Change{}) {
		t.Errorf("P9.1: Get of %s, %v, = %v, %d; want nothing, %d", why, b, got, e, api.ErrSyntax)
	}
}

func checkAll(t *testing.T, l []api.Change, want []byte) {
	t.Helper()
	if got, e := change.All(l); e != api.OK || !bytes.Equal(got, want) {
		t.Errorf("P9.1: All(%v) = %v, %d; want %v", l, got, e, want)
	}
}

func checkNoAll(t *testing.T, why string, l []api.Change, want api.Errno) {
	t.Helper()
	if got, e := change.All(l); e != want || len(got) != 0 {
		t.Errorf("P9.1: All of %s, %v, = %v, %d; want nothing, %d", why, l, got, e, want)
	}
}

func checkList(t *testing.T, b []byte, want []api.Change) {
	t.Helper()
	if got, e := change.List(b); e != api.OK || !slices.Equal(got, want) {
		t.Errorf("P9.1: List(%v) = %v, %d; want %v", b, got, e, want)
	}
}

func checkNoList(t *testing.T, why string, b []byte) {
	t.Helper()
	if got, e := change.List(b); e != api.ErrSyntax || len(got) != 0 {
		t.Errorf("P9.1: List of %s, %v, = %v, %d; want nothing, %d", why, b, got, e, api.ErrSyntax)
	}
}

func TestExample(t *testing.T) {
	if b, e := change.All(nil); e != api.OK || len(b) != 1 || b[0] != 0 {
		t.Errorf("example 1: All of none = %v, %d", b, e)
	}
}

func TestCheck(t *testing.T) {
	for _, c := range goodChanges() {
		if e := change.Check(c); e != api.OK {
			t.Errorf("P9.1: Check(%v) = %d; want %d", c, e, api.OK)
		}
	}
	for _, c := range badChanges() {
		if e := change.Check(c); e != api.ErrRange {
			t.Errorf("P9.1: Check(%v) = %d; want %d", c, e, api.ErrRange)
		}
	}
}

// TestCheckAtEdges has each part alone at its bounds, one beyond, and as far as an int goes.
func TestCheckAtEdges(t *testing.T) {
	for _, p := range parts() {
		cases := []struct {
			n    int
			want api.Errno
		}{
			{p.lo, api.OK}, {p.lo - 1, api.ErrRange}, {p.hi, api.OK}, {p.hi + 1, api.ErrRange},
			{least, api.ErrRange}, {greatest, api.ErrRange},
		}
		for _, c := range cases {
			if got := change.Check(with(p, c.n)); got != c.want {
				t.Errorf("P9.1: Check with %s %d = %d; want %d", p.name, c.n, got, c.want)
			}
		}
	}
}

// TestCheckWritten has its answers written out.
func TestCheckWritten(t *testing.T) {
	id, ref := api.Id{Replica: 1, Seq: 1}, api.Id{Replica: 255, Seq: 65535}
	cases := []struct {
		name string
		c    api.Change
		want api.Errno
	}{
		{"nothing", api.Change{}, api.ErrRange},
		{"the least", api.Change{Id: api.Id{Seq: 1}, Time: 1}, api.OK},
		{"no Time", api.Change{Id: id}, api.ErrRange},
		{"no Id", api.Change{Time: 1}, api.ErrRange},
		{"no Ref", api.Change{Id: id, Time: 1, Kind: 1, A: 1, B: 1, N: 1}, api.OK},
		{"a Ref that is no Id that may be", api.Change{Id: id, Time: 1, Ref: api.Id{Replica: 200}}, api.OK},
		{"the greatest", api.Change{Id: api.Id{Replica: 3, Seq: 65535}, Time: 1073741824, Kind: 255, A: 255, B: 255, N: math.MaxInt64, Ref: ref}, api.OK},
		{"an N below all", api.Change{Id: id, Time: 1, N: math.MinInt64}, api.OK},
		{"a fifth replica's", api.Change{Id: api.Id{Replica: 4, Seq: 1}, Time: 1}, api.ErrRange},
		{"a Time one too great", api.Change{Id: id, Time: 1073741825}, api.ErrRange},
		{"a Ref one too great", api.Change{Id: id, Time: 1, Ref: api.Id{Replica: 256}}, api.ErrRange},
		{"a Ref's Seq one too great", api.Change{Id: id, Time: 1, Ref: api.Id{Seq: 65536}}, api.ErrRange},
	}
	for _, c := range cases {
		if got := change.Check(c.c); got != c.want {
			t.Errorf("P9.1: Check of %s = %d; want %d", c.name, got, c.want)
		}
	}
}

func TestPut(t *testing.T) {
	for _, c := range goodChanges() {
		checkPut(t, c, octetsOf(c))
	}
	for _, c := range badChanges() {
		checkNoPut(t, c)
	}
}

// TestPutWritten has its answers written out.
func TestPutWritten(t *testing.T) {
	checkPut(t, plainChange(), plainOctets())
	checkPut(t, api.Change{Id: api.Id{Seq: 1}, Time: 1}, []byte{0, 0, 1, 0, 0, 0, 1, 0, 0, 0, 0, 0, 0, 0, 0, 0, 0, 0, 0, 0, 0, 0x43})
	great := api.Change{Id: api.Id{Replica: 3, Seq: 65535}, Time: 1 << 30, Kind: 255, A: 254, B: 253, N: -2, Ref: api.Id{Replica: 252, Seq: 65534}}
	checkPut(t, great, []byte{3, 255, 255, 64, 0, 0, 0, 255, 254, 253, 255, 255, 255, 255, 255, 255, 255, 254, 252, 255, 254, 0x43})
	checkPut(t, withN(math.MinInt64), slices.Concat(plainOctets()[:10], []byte{128, 0, 0, 0, 0, 0, 0, 0}, plainOctets()[18:]))
	checkPut(t, withN(math.MaxInt64), slices.Concat(plainOctets()[:10], []byte{127, 255, 255, 255, 255, 255, 255, 255}, plainOctets()[18:]))
	checkPut(t, withN(-1), slices.Concat(plainOctets()[:10], []byte{255, 255, 255, 255, 255, 255, 255, 255}, plainOctets()[18:]))
}

// TestPutIsChecked: Put's error is Check's.
func TestPutIsChecked(t *testing.T) {
	for _, p := range parts() {
		for _, n := range numbers() {
			c := with(p, n)
			if _, e := change.Put(c); e != change.Check(c) {
				t.Errorf("P9.1: Put with %s %d answers %d, and Check %d", p.name, n, e, change.Check(c))
			}
		}
	}
}

func TestGet(t *testing.T) {
	checkGet(t, plainOctets(), plainChange())
	for _, c := range goodChanges() {
		checkGet(t, octetsOf(c), c)
	}
}

// TestGetOfOtherLengths has octets that are too few, or too many, their last one being 0x43 or not.
func TestGetOfOtherLengths(t *testing.T) {
	checkNoGet(t, "nil", nil)
	checkNoGet(t, "no octets", []byte{})
	long := slices.Concat(plainOctets(), plainOctets(), plainOctets())
	for n := range long {
		if n == size {
			continue
		}
		checkNoGet(t, "another length", long[:n])
		if n > 0 {
			ended := slices.Clone(long[:n])
			ended[n-1] = end
			checkNoGet(t, "another length that ends well", ended)
		}
	}
	checkNoGet(t, "an octet ahead", append([]byte{0}, plainOctets()...))
	checkNoGet(t, "an octet 0 behind", append(plainOctets(), 0))
	checkNoGet(t, "an end behind", append(plainOctets(), end))
	checkNoGet(t, "very many octets", bytes.Repeat(plainOctets(), 1000))
}

// TestGetLooksNoFurther: what lies behind the octets in their own memory makes no change of them.
func TestGetLooksNoFurther(t *testing.T) {
	b := slices.Concat(plainOctets(), plainOctets())
	checkNoGet(t, "one octet too few, with more behind", b[:size-1])
	checkGet(t, b[:size], plainChange())
	checkGet(t, b[size:], plainChange())
	checkNoGet(t, "all", b)
}

func TestGetOfAnotherEnd(t *testing.T) {
	for o := range 256 {
		b := plainOctets()
		b[size-1] = byte(o)
		if o == end {
			checkGet(t, b, plainChange())
		} else {
			checkNoGet(t, "another end", b)
		}
	}
}

// TestGetOfEachOctet has each octet at each number, and looks at whether the change that they say may be.
func TestGetOfEachOctet(t *testing.T) {
	starts := [][]byte{plainOctets(), octetsOf(api.Change{Id: api.Id{Seq: 1}, Time: 1}), append(bytes.Repeat([]byte{255}, size-1), end), append(make([]byte, size-1), end)}
	for _, start := range starts {
		for at := range size - 1 {
			for o := range 256 {
				b := slices.Clone(start)
				b[at] = byte(o)
				if c := changeOf(b); may(c) {
					checkGet(t, b, c)
				} else {
					checkNoGet(t, "what may not be", b)
				}
			}
		}
	}
}

// TestGetWritten has octets written out of changes that may not be, and of such as just may.
func TestGetWritten(t *testing.T) {
	cases := []struct {
		name string
		at   int
		b    []byte
		want bool
	}{
		{"replica 3", 0, []byte{3}, true},
		{"replica 4", 0, []byte{4}, false},
		{"replica 255", 0, []byte{255}, false},
		{"Seq 0", 1, []byte{0, 0}, false},
		{"Seq 1", 1, []byte{0, 1}, true},
		{"the greatest Seq", 1, []byte{255, 255}, true},
		{"Time 0", 3, []byte{0, 0, 0, 0}, false},
		{"Time 1", 3, []byte{0, 0, 0, 1}, true},
		{"MaxTime", 3, []byte{64, 0, 0, 0}, true},
		{"one above MaxTime", 3, []byte{64, 0, 0, 1}, false},
		{"a Time with the highest bit", 3, []byte{128, 0, 0, 1}, false},
		{"the greatest Time", 3, []byte{255, 255, 255, 255}, false},
		{"Kind 0", 7, []byte{0}, true},
		{"the greatest Kind, A and B", 7, []byte{255, 255, 255}, true},
		{"the least N", 10, []byte{128, 0, 0, 0, 0, 0, 0, 0}, true},
		{"N -1", 10, []byte{255, 255, 255, 255, 255, 255, 255, 255}, true},
		{"no Ref", 18, []byte{0, 0, 0}, true},
		{"the greatest Ref", 18, []byte{255, 255, 255}, true},
	}
	for _, c := range cases {
		b := plainOctets()
		copy(b[c.at:], c.b)
		if c.want {
			checkGet(t, b, changeOf(b))
		} else {
			checkNoGet(t, c.name, b)
		}
	}
}

func TestAll(t *testing.T) {
	checkAll(t, nil, []byte{0})
	checkAll(t, []api.Change{}, []byte{0})
	checkAll(t, []api.Change{plainChange()}, append([]byte{1}, plainOctets()...))
	checkAll(t, []api.Change{plainChange(), plainChange()}, slices.Concat([]byte{2}, plainOctets(), plainOctets()))
	for n := range most + 1 {
		l := someChanges(n)
		checkAll(t, l, allOf(l))
	}
	for _, c := range goodChanges() {
		l := []api.Change{plainChange(), c, plainChange()}
		checkAll(t, l, allOf(l))
	}
}

// TestAllOfMany: the count's error stands ahead of all others.
func TestAllOfMany(t *testing.T) {
	bad := api.Change{}
	for _, n := range []int{most + 1, most + 2, 2 * most, 255, 256, 257, 256 + most, 1000} {
		checkNoAll(t, "too many", someChanges(n), api.ErrCount)
		for _, at := range []int{0, n / 2, n - 1} {
			l := someChanges(n)
			l[at] = bad
			checkNoAll(t, "too many, and one that may not be", l, api.ErrCount)
		}
		checkNoAll(t, "too many that may not be", slices.Repeat([]api.Change{bad}, n), api.ErrCount)
	}
}

// TestAllOfBad has one that may not be, at each place of lists of some lengths.
func TestAllOfBad(t *testing.T) {
	for _, n := range []int{1, 2, 3, most - 1, most} {
		for at := range n {
			l := someChanges(n)
			l[at].Time = 0
			checkNoAll(t, "one that may not be", l, api.ErrRange)
		}
	}
	for _, c := range badChanges() {
		checkNoAll(t, "one alone", []api.Change{c}, api.ErrRange)
		checkNoAll(t, "the first one", []api.Change{c, plainChange(), plainChange()}, api.ErrRange)
		checkNoAll(t, "the middle one", []api.Change{plainChange(), c, plainChange()}, api.ErrRange)
		checkNoAll(t, "the last one", []api.Change{plainChange(), plainChange(), c}, api.ErrRange)
	}
}

func TestList(t *testing.T) {
	checkList(t, []byte{0}, nil)
	checkList(t, append([]byte{1}, plainOctets()...), []api.Change{plainChange()})
	checkList(t, slices.Concat([]byte{2}, plainOctets(), plainOctets()), []api.Change{plainChange(), plainChange()})
	for n := range most + 1 {
		l := someChanges(n)
		checkList(t, allOf(l), l)
	}
	for _, c := range goodChanges() {
		l := []api.Change{plainChange(), c, plainChange()}
		checkList(t, allOf(l), l)
	}
}

// TestListOfAnotherCount has each count ahead of each number of changes that may be in a list, and of some more.
func TestListOfAnotherCount(t *testing.T) {
	checkNoList(t, "nil", nil)
	checkNoList(t, "no octets", []byte{})
	for _, n := range []int{0, 1, 2, 3, most - 1, most, most + 1, 255, 256, 257} {
		b := allOf(someChanges(n))
		for count := range 256 {
			b[0] = byte(count)
			if count == n && n <= most {
				checkList(t, b, someChanges(n))
			} else {
				checkNoList(t, "another count", b)
			}
		}
	}
}

// TestListOfAnotherLength has octets cut off, or put behind, ahead or in between.
func TestListOfAnotherLength(t *testing.T) {
	for _, n := range []int{1, 2, 3, most} {
		whole := allOf(someChanges(n))
		for cut := range whole {
			checkNoList(t, "some octets too few", whole[:cut])
		}
		for _, more := range [][]byte{{0}, {end}, {0, 0}, make([]byte, size-1), make([]byte, size), plainOctets(), plainOctets()[:size-1]} {
			checkNoList(t, "octets left over", slices.Concat(whole, more))
			checkNoList(t, "octets ahead", slices.Concat(more, whole))
			checkNoList(t, "octets behind the count", slices.Insert(slices.Clone(whole), 1, more...))
		}
	}
	for _, more := range [][]byte{{0}, {end}, {1}, plainOctets()} {
		checkNoList(t, "octets behind a count of 0", append([]byte{0}, more...))
	}
	checkNoList(t, "very many octets", bytes.Repeat([]byte{end}, 100000))
}

// TestListLooksNoFurther: what lies behind the octets in their own memory makes no list of them.
func TestListLooksNoFurther(t *testing.T) {
	b := allOf(someChanges(3))
	b[0] = 2
	checkList(t, b[:1+2*size], someChanges(3)[:2])
	b[0] = 3
	checkNoList(t, "one change too few, with more behind", b[:1+2*size])
	checkNoList(t, "one octet too few, with more behind", b[:3*size])
	checkNoList(t, "the count alone, with more behind", b[:1])
}

// TestListOfBad has one that may not be, or does not end well, at each place of lists of some lengths.
func TestListOfBad(t *testing.T) {
	for _, n := range []int{1, 2, 3, most - 1, most} {
		for at := range n {
			wrong := []struct {
				name string
				at   int
				o    byte
			}{{"replica 4", 0, 4}, {"a Time above all", 3, 255}, {"no end", size - 1, 0}, {"another end", size - 1, end ^ 1}}
			for _, w := range wrong {
				b := allOf(someChanges(n))
				b[1+at*size+w.at] = w.o
				checkNoList(t, w.name, b)
			}
			l := someChanges(n)
			l[at].Id.Seq = 0
			checkNoList(t, "Seq 0", allOf(l))
			l = someChanges(n)
			l[at].Time = 0
			checkNoList(t, "Time 0", allOf(l))
		}
	}
}

// TestThereAndBack: what is put comes back.
func TestThereAndBack(t *testing.T) {
	for _, c := range goodChanges() {
		b, e := change.Put(c)
		back, f := change.Get(b)
		if e != api.OK || f != api.OK || back != c || len(b) != size {
			t.Errorf("P9.2: %v is put as %v, %d, and comes back as %v, %d", c, b, e, back, f)
		}
	}
	for n := range most + 1 {
		l := someChanges(n)
		b, e := change.All(l)
		back, f := change.List(b)
		if e != api.OK || f != api.OK || !slices.Equal(back, l) || len(b) != 1+n*size {
			t.Errorf("P9.2: %v is told as %v, %d, and comes back as %v, %d", l, b, e, back, f)
		}
	}
}

// TestBackAndThere: octets that are taken are those that are put, and unlike ones are never taken as one change.
func TestBackAndThere(t *testing.T) {
	random := rand.New(rand.NewSource(9))
	seen := map[api.Change][size]byte{}
	for range 20000 {
		var b [size]byte
		random.Read(b[:])
		b[0], b[3], b[size-1] = b[0]&7, b[3]&127, end-b[size-1]&1
		c, e := change.Get(b[:])
		if want := changeOf(b[:]); (e == api.OK) != (may(want) && b[size-1] == end) {
			t.Fatalf("P9.1: Get(%v) = %v, %d", b, c, e)
		}
		if e != api.OK {
			continue
		}
		if other, ok := seen[c]; ok && other != b {
			t.Errorf("P9.2: %v and %v are taken as %v", other, b, c)
		}
		seen[c] = b
		if back, f := change.Put(c); f != api.OK || !bytes.Equal(back, b[:]) {
			t.Errorf("P9.2: %v is taken as %v, and put as %v, %d", b, c, back, f)
		}
	}
	if len(seen) < 1000 {
		t.Fatalf("just %d were taken", len(seen))
	}
}

// TestListsBackAndThere turns bits of a told list: what is taken is told the same.
func TestListsBackAndThere(t *testing.T) {
	whole := allOf(someChanges(4))
	taken := 0
	for at := range whole {
		for bit := range 8 {
			b := slices.Clone(whole)
			b[at] ^= 1 << bit
			l, e := change.List(b)
			if e != api.OK {
				continue
			}
			taken++
			if back, f := change.All(l); f != api.OK || !bytes.Equal(back, b) {
				t.Errorf("P9.2: %v is taken as %v, and told as %v, %d", b, l, back, f)
			}
		}
	}
	if taken < 4*8*14 {
		t.Errorf("P9.1: just %d lists were taken", taken)
	}
}

// withSpareRoom is l, with room behind it that is filled with one thing.
func withSpareRoom[T any](l []T, fill T) []T {
	room := slices.Concat(l, slices.Repeat([]T{fill}, 64))
	return room[:len(l):len(room)]
}

// isSpareRoom tells whether all room behind l is as withSpareRoom filled it.
func isSpareRoom[T comparable](l []T, fill T) bool {
	return !slices.ContainsFunc(l[len(l):cap(l)], func(x T) bool { return x != fill })
}

// spoil writes one thing all over l, and over the room behind it.
func spoil[T any](l []T, with T) {
	l = l[:cap(l)]
	for i := range l {
		l[i] = with
	}
}

func TestListsAreNotChangedNorShared(t *testing.T) {
	mark := api.Change{Kind: -7}
	for _, n := range []int{0, 1, 2, 5, most, most + 1} {
		l, want := withSpareRoom(someChanges(n), mark), someChanges(n)
		first, e := change.All(l)
		second, _ := change.All(l)
		if !slices.Equal(l, want) || !isSpareRoom(l, mark) {
			t.Fatalf("P2: All changed the list of %d that it was handed", n)
		}
		if e != api.OK {
			continue
		}
		spoil(first, 0xaa)
		spoil(l, mark)
		if !bytes.Equal(second, allOf(want)) {
			t.Errorf("P2: an answer of All hangs on what became of another one, or of its list of %d", n)
		}
	}
}

func TestOctetsAreNotChangedNorShared(t *testing.T) {
	for _, n := range []int{0, 1, 2, 5, most, most + 1} {
		b, want := withSpareRoom(allOf(someChanges(n)), 0x5a), allOf(someChanges(n))
		first, e := change.List(b)
		second, _ := change.List(b)
		if !bytes.Equal(b, want) || !isSpareRoom(b, 0x5a) {
			t.Fatalf("P2: List changed the octets of %d changes that it was handed", n)
		}
		if e != api.OK {
			continue
		}
		spoil(first, api.Change{Kind: -7})
		spoil(b, 0xbb)
		if !slices.Equal(second, someChanges(n)) {
			t.Errorf("P2: an answer of List hangs on what became of another one, or of its octets of %d changes", n)
		}
	}
}

func TestGetDoesNotChange(t *testing.T) {
	for _, n := range []int{0, 1, size - 1, size, size + 1} {
		given := append(plainOctets(), plainOctets()...)[:n:n]
		b := withSpareRoom(given, 0x5a)
		c, e := change.Get(b)
		if !bytes.Equal(b, given) || !isSpareRoom(b, 0x5a) {
			t.Errorf("P2: Get changed the %d octets that it was handed", n)
		}
		spoil(b, 0xcc)
		if e == api.OK && c != plainChange() {
			t.Errorf("P2: Get's answer hangs on what became of its octets: %v", c)
		}
	}
}

func TestPutsAnswersAreTheirOwn(t *testing.T) {
	first, _ := change.Put(plainChange())
	second, _ := change.Put(plainChange())
	spoil(first, 0xdd)
	third, _ := change.Put(plainChange())
	if !bytes.Equal(second, plainOctets()) || !bytes.Equal(third, plainOctets()) {
		t.Errorf("P2: Put's answers %v and %v hang on what became of another one", second, third)
	}
	// Of none there is one octet, which must be each answer's own as well.
	none, _ := change.All(nil)
	spoil(none, 0xdd)
	if again, _ := change.All(nil); !bytes.Equal(again, []byte{0}) {
		t.Errorf("P2: All of none = %v, behind a writing to another answer", again)
	}
}
