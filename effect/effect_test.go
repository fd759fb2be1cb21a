package effect_test

import (
	"bytes"
	"encoding/binary"
	"fmt"
	"math"
	"math/rand"
	"slices"
	"testing"

	"countermand/api"
	"countermand/effect"
)

const (
	least    = math.MinInt
	greatest = math.MaxInt
	size     = 13
	maxSeq   = 65535
)

// plainEffect is an effect that may be, each part unlike all others.
func plainEffect() api.Effect {
	return api.Effect{Kind: 6, A: 2, N: 0x1213141516171819, Ref: api.Id{Replica: 20, Seq: 0x2122}}
}

// plainOctets are plainEffect's octets, written out.
func plainOctets() []byte {
	return []byte{6, 2, 0x12, 0x13, 0x14, 0x15, 0x16, 0x17, 0x18, 0x19, 20, 0x21, 0x22}
}

// part is one part of an effect: what it is called, from what to what it may be, the error if it may not, and how it is set.
type part struct {
	name   string
	lo, hi int
	bad    api.Errno
	set    func(e *api.Effect, n int)
}

// parts are all of an effect but N, which may be anything.
func parts() []part {
	return []part{
		{"Kind", 1, 11, api.ErrKind, func(e *api.Effect, n int) { e.Kind = n }},
		{"A", 0, 255, api.ErrRange, func(e *api.Effect, n int) { e.A = n }},
		{"Ref.Replica", 0, 255, api.ErrRange, func(e *api.Effect, n int) { e.Ref.Replica = n }},
		{"Ref.Seq", 0, maxSeq, api.ErrRange, func(e *api.Effect, n int) { e.Ref.Seq = n }},
	}
}

// allParts are all of an effect, where nothing hangs on what it may be.
func allParts() []part {
	return append(parts(), part{"N", least, greatest, api.OK, func(e *api.Effect, n int) { e.N = int64(n) }})
}

// numbers are such as lie at the edges of any part, or have lower bits that may be.
func numbers() []int {
	return []int{
		least, least + 1, least + 7, -1 << 32, -1<<32 + 7, -maxSeq - 1, -257, -256, -255, -249, -12, -11, -7, -2, -1,
		0, 1, 2, 3, 4, 5, 6, 7, 8, 9, 10, 11, 12, 13, 100, 127, 128, 254, 255, 256, 257, 258, 263,
		maxSeq - 1, maxSeq, maxSeq + 1, maxSeq + 2, maxSeq + 8, 1 << 24, 1<<31 - 1, 1 << 31, 1<<32 - 1,
		1 << 32, 1<<32 + 1, 1<<32 + 7, greatest - 1, greatest,
	}
}

// noKinds are numbers that no Kind has.
func noKinds() []int {
	return slices.DeleteFunc(numbers(), func(n int) bool { return n >= 1 && n <= 11 })
}

// manyN are numbers of all kinds that N may be.
func manyN() []int64 {
	l := []int64{math.MinInt64, math.MinInt64 + 1, -1 << 32, -257, -256, -255, -2, -1, 0, 1, 2, 255, 256, 1<<32 - 1, 1 << 32, math.MaxInt64 - 1, math.MaxInt64}
	for i := range 64 {
		l = append(l, 1<<i, ^(1 << i))
	}
	return l
}

// with is plainEffect with n as that part alone.
func with(p part, n int) api.Effect {
	e := plainEffect()
	p.set(&e, n)
	return e
}

// withN is plainEffect with that N.
func withN(n int64) api.Effect {
	e := plainEffect()
	e.N = n
	return e
}

// may tells by the parts' bounds, each looked at apart, whether e may be.
func may(e api.Effect) bool {
	bad := e.Kind < 1 || e.Kind > 11 || e.A < 0 || e.A > 255
	return !bad && e.Ref.Replica >= 0 && e.Ref.Replica <= 255 && e.Ref.Seq >= 0 && e.Ref.Seq <= maxSeq
}

// octetsOf is e's octets by a library's means.
func octetsOf(e api.Effect) []byte {
	b := []byte{byte(e.Kind), byte(e.A)}
	b = binary.BigEndian.AppendUint64(b, uint64(e.N))
	b = append(b, byte(e.Ref.Replica))
	return binary.BigEndian.AppendUint16(b, uint16(e.Ref.Seq))
}

// effectOf is what the octets say by a library's means; there are 13.
func effectOf(b []byte) api.Effect {
	return api.Effect{
		Kind: int(b[0]),
		A:    int(b[1]),
		N:    int64(binary.BigEndian.Uint64(b[2:])),
		Ref:  api.Id{Replica: int(b[10]), Seq: int(binary.BigEndian.Uint16(b[11:]))},
	}
}

// someEffect is an effect that may be, by chance.
func someEffect(random *rand.Rand) api.Effect {
	return api.Effect{
		Kind: 1 + random.Intn(11),
		A:    random.Intn(256),
		N:    int64(random.Uint64()),
		Ref:  api.Id{Replica: random.Intn(256), Seq: random.Intn(maxSeq + 1)},
	}
}

// someEffects are n effects that may be, each time the same.
func someEffects(n int) []api.Effect {
	random := rand.New(rand.NewSource(int64(1000 + n)))
	l := []api.Effect{}
	for range n {
		l = append(l, someEffect(random))
	}
	return l
}

// mixedEffects are n effects of Kinds that are some, and of Kinds that are none.
func mixedEffects(n int) []api.Effect {
	random := rand.New(rand.NewSource(int64(2000 + n)))
	none := noKinds()
	l := someEffects(n)
	for i := range l {
		if random.Intn(3) == 0 {
			l[i].Kind = none[random.Intn(len(none))]
		}
	}
	return l
}

// goodEffects are effects that may be: at all edges, and others.
func goodEffects() []api.Effect {
	great := api.Id{Replica: 255, Seq: maxSeq}
	l := []api.Effect{
		plainEffect(),
		{Kind: 1},
		{Kind: 1, N: math.MinInt64},
		{Kind: 11, A: 255, N: math.MaxInt64, Ref: great},
		{Kind: 11, A: 255, N: -1, Ref: great},
	}
	for _, p := range parts() {
		for _, n := range numbers() {
			if n >= p.lo && n <= p.hi {
				l = append(l, with(p, n))
			}
		}
	}
	for _, n := range manyN() {
		l = append(l, withN(n))
	}
	return append(l, someEffects(200)...)
}

// badEffect is one that may not be, and why.
type badEffect struct {
	e    api.Effect
	want api.Errno
}

// badEffects are effects that may not be: each with one part out of its bounds, and some with more.
func badEffects() []badEffect {
	l := []badEffect{
		{api.Effect{}, api.ErrKind},
		{api.Effect{A: 1, N: 1}, api.ErrKind},
		{api.Effect{Kind: -1, A: -1, N: -1, Ref: api.Id{Replica: -1, Seq: -1}}, api.ErrKind},
		{api.Effect{Kind: 1, A: -1, N: -1, Ref: api.Id{Replica: -1, Seq: -1}}, api.ErrRange},
		{api.Effect{Kind: 12, A: 256, Ref: api.Id{Replica: 256, Seq: maxSeq + 1}}, api.ErrKind},
		{api.Effect{Kind: 11, A: 256, Ref: api.Id{Replica: 256, Seq: maxSeq + 1}}, api.ErrRange},
	}
	for _, p := range parts() {
		for _, n := range numbers() {
			if n < p.lo || n > p.hi {
				l = append(l, badEffect{with(p, n), p.bad})
			}
		}
	}
	return l
}

func checkPut(t *testing.T, e api.Effect, want []byte) {
	t.Helper()
	if got, no := effect.Put(e); no != api.OK || !bytes.Equal(got, want) {
		t.Errorf("P10.1: Put(%v) = %v, %d; want %v", e, got, no, want)
	}
}

func checkNoPut(t *testing.T, e api.Effect, want api.Errno) {
	t.Helper()
	if got, no := effect.Put(e); no != want || len(got) != 0 {
		t.Errorf("P10.1: Put(%v) = %v, %d; want nothing, %d", e, got, no, want)
	}
}

func checkGet(t *testing.T, b []byte, want api.Effect) {
	t.Helper()
	if got, no := effect.Get(b); no != api.OK || got != want {
		t.Errorf("P10.1: Get(%v) = %v, %d; want %v", b, got, no, want)
	}
}

func checkNoGet(t *testing.T, why string, b []byte) {
	t.Helper()
	if got, no := effect.Get(b); no != api.ErrSyntax || got != (api.Effect{}) {
		t.Errorf("P10.1: Get of %s, %v, = %v, %d; want nothing, %d", why, b, got, no, api.ErrSyntax)
	}
}

func checkWant(t *testing.T, l []api.Effect, good bool, want []api.Effect) {
	t.Helper()
	if got := effect.Want(api.Outcome{Effects: l}, good); !slices.Equal(got, want) {
		t.Errorf("P10.1: Want of %v, %v, = %v; want %v", l, good, got, want)
	}
}

func checkCommon(t *testing.T, a []api.Effect, b []api.Effect, want int) {
	t.Helper()
	if got := effect.Common(a, b); got != want {
		t.Errorf("P10.1: Common(%v, %v) = %d; want %d", a, b, got, want)
	}
	if got := effect.Common(b, a); got != want {
		t.Errorf("P10.1: Common(%v, %v) = %d; want %d", b, a, got, want)
	}
}

func checkText(t *testing.T, e api.Effect, want string) {
	t.Helper()
	if got := effect.Text(e); got != want {
		t.Errorf("P10.1: Text(%v) = %q; want %q", e, got, want)
	}
}

func TestExample(t *testing.T) {
	mail, reserve := api.Effect{Kind: 7, A: 1, N: 1}, api.Effect{Kind: 1, A: 2, N: 3}
	got := effect.Want(api.Outcome{Effects: []api.Effect{mail, reserve}}, true)
	if !slices.Equal(got, []api.Effect{reserve, mail}) {
		t.Errorf("example 1: Want of (mail, reserve) for good = %v", got)
	}
}

// TestLater has each Kind's answer written out, whatever else the effect has.
func TestLater(t *testing.T) {
	later := map[int]bool{7: true, 8: true, 9: true, 10: true, 11: true}
	for _, n := range append(numbers(), -6, -5, -4, -3) {
		for _, e := range []api.Effect{{Kind: n}, {Kind: n, A: 8, N: 9, Ref: api.Id{Replica: 10, Seq: 7}}, {Kind: n, A: least, N: -1, Ref: api.Id{Replica: -1, Seq: greatest}}} {
			if got := effect.Later(e); got != later[n] {
				t.Errorf("P10.1: Later(%v) = %v; want %v", e, got, later[n])
			}
		}
	}
}

func TestCheck(t *testing.T) {
	for _, e := range goodEffects() {
		if no := effect.Check(e); no != api.OK {
			t.Errorf("P10.1: Check(%v) = %d; want %d", e, no, api.OK)
		}
	}
	for _, b := range badEffects() {
		if no := effect.Check(b.e); no != b.want {
			t.Errorf("P10.1: Check(%v) = %d; want %d", b.e, no, b.want)
		}
	}
}

// TestCheckAtEdges has each part alone at its bounds, one beyond, and as far as an int goes.
func TestCheckAtEdges(t *testing.T) {
	for _, p := range parts() {
		cases := []struct {
			n    int
			want api.Errno
		}{
			{p.lo, api.OK}, {p.lo - 1, p.bad}, {p.hi, api.OK}, {p.hi + 1, p.bad}, {least, p.bad}, {greatest, p.bad},
		}
		for _, c := range cases {
			if got := effect.Check(with(p, c.n)); got != c.want {
				t.Errorf("P10.1: Check with %s %d = %d; want %d", p.name, c.n, got, c.want)
			}
		}
	}
}

// TestCheckWritten has its answers written out.
func TestCheckWritten(t *testing.T) {
	cases := []struct {
		name string
		e    api.Effect
		want api.Errno
	}{
		{"nothing", api.Effect{}, api.ErrKind},
		{"the least", api.Effect{Kind: 1}, api.OK},
		{"Kind 11", api.Effect{Kind: 11}, api.OK},
		{"Kind 12", api.Effect{Kind: 12}, api.ErrKind},
		{"Kind -1", api.Effect{Kind: -1}, api.ErrKind},
		{"the greatest", api.Effect{Kind: 11, A: 255, N: math.MaxInt64, Ref: api.Id{Replica: 255, Seq: 65535}}, api.OK},
		{"the least N", api.Effect{Kind: 5, N: math.MinInt64}, api.OK},
		{"N -1", api.Effect{Kind: 5, N: -1}, api.OK},
		{"A 255", api.Effect{Kind: 5, A: 255}, api.OK},
		{"A 256", api.Effect{Kind: 5, A: 256}, api.ErrRange},
		{"A -1", api.Effect{Kind: 5, A: -1}, api.ErrRange},
		{"an item that is none", api.Effect{Kind: 1, A: 8, N: 1}, api.OK},
		{"a Ref that is no Id that may be", api.Effect{Kind: 5, Ref: api.Id{Replica: 255}}, api.OK},
		{"a Ref's Replica 256", api.Effect{Kind: 5, Ref: api.Id{Replica: 256}}, api.ErrRange},
		{"a Ref's Replica -1", api.Effect{Kind: 5, Ref: api.Id{Replica: -1}}, api.ErrRange},
		{"a Ref's greatest Seq", api.Effect{Kind: 5, Ref: api.Id{Seq: 65535}}, api.OK},
		{"a Ref's Seq 65536", api.Effect{Kind: 5, Ref: api.Id{Seq: 65536}}, api.ErrRange},
		{"a Ref's Seq -1", api.Effect{Kind: 5, Ref: api.Id{Seq: -1}}, api.ErrRange},
	}
	for _, c := range cases {
		if got := effect.Check(c.e); got != c.want {
			t.Errorf("P10.1: Check of %s = %d; want %d", c.name, got, c.want)
		}
	}
}

// TestKindIsFirst: where the Kind and another part may not be, the Kind's error is told.
func TestKindIsFirst(t *testing.T) {
	for _, kind := range noKinds() {
		for _, p := range parts()[1:] {
			for _, n := range []int{p.lo - 1, p.hi + 1, least, greatest} {
				e := with(p, n)
				e.Kind = kind
				if got := effect.Check(e); got != api.ErrKind {
					t.Errorf("P10.1: Check with Kind %d and %s %d = %d; want %d", kind, p.name, n, got, api.ErrKind)
				}
				checkNoPut(t, e, api.ErrKind)
			}
		}
	}
}

func TestPut(t *testing.T) {
	for _, e := range goodEffects() {
		checkPut(t, e, octetsOf(e))
	}
	for _, b := range badEffects() {
		checkNoPut(t, b.e, b.want)
	}
}

// TestPutWritten has its answers written out.
func TestPutWritten(t *testing.T) {
	checkPut(t, plainEffect(), plainOctets())
	checkPut(t, api.Effect{Kind: 1}, []byte{1, 0, 0, 0, 0, 0, 0, 0, 0, 0, 0, 0, 0})
	great := api.Effect{Kind: 11, A: 255, N: math.MaxInt64, Ref: api.Id{Replica: 254, Seq: 65534}}
	checkPut(t, great, []byte{11, 255, 127, 255, 255, 255, 255, 255, 255, 255, 254, 255, 254})
	checkPut(t, withN(math.MinInt64), []byte{6, 2, 128, 0, 0, 0, 0, 0, 0, 0, 20, 0x21, 0x22})
	checkPut(t, withN(-1), []byte{6, 2, 255, 255, 255, 255, 255, 255, 255, 255, 20, 0x21, 0x22})
	checkPut(t, withN(-2), []byte{6, 2, 255, 255, 255, 255, 255, 255, 255, 254, 20, 0x21, 0x22})
	checkPut(t, withN(258), []byte{6, 2, 0, 0, 0, 0, 0, 0, 1, 2, 20, 0x21, 0x22})
}

// TestPutIsChecked: Put's error is Check's.
func TestPutIsChecked(t *testing.T) {
	for _, p := range parts() {
		for _, n := range numbers() {
			e := with(p, n)
			if _, no := effect.Put(e); no != effect.Check(e) {
				t.Errorf("P10.1: Put with %s %d answers %d, and Check %d", p.name, n, no, effect.Check(e))
			}
		}
	}
}

func TestGet(t *testing.T) {
	checkGet(t, plainOctets(), plainEffect())
	for _, e := range goodEffects() {
		checkGet(t, octetsOf(e), e)
	}
}

// TestGetOfOtherLengths has octets that are too few, or too many.
func TestGetOfOtherLengths(t *testing.T) {
	checkNoGet(t, "nil", nil)
	checkNoGet(t, "no octets", []byte{})
	for _, long := range [][]byte{slices.Repeat(plainOctets(), 4), bytes.Repeat([]byte{1}, 4*size)} {
		for n := range len(long) + 1 {
			if n == size {
				checkGet(t, long[:n], effectOf(long))
			} else {
				checkNoGet(t, "another length", slices.Clone(long[:n]))
			}
		}
	}
	checkNoGet(t, "an octet ahead", append([]byte{1}, plainOctets()...))
	checkNoGet(t, "an octet 0 ahead", append([]byte{0}, plainOctets()...))
	checkNoGet(t, "an octet 0 behind", append(plainOctets(), 0))
	checkNoGet(t, "very many octets", bytes.Repeat(plainOctets(), 1000))
}

// TestGetLooksNoFurther: what lies behind the octets in their own memory makes no effect of them.
func TestGetLooksNoFurther(t *testing.T) {
	b := slices.Concat(plainOctets(), plainOctets())
	for n := range size {
		checkNoGet(t, "too few octets, with more behind", b[:n])
	}
	checkGet(t, b[:size], plainEffect())
	checkGet(t, b[size:], plainEffect())
	checkNoGet(t, "all", b)
}

// TestGetOfEachKind has each octet as the Kind.
func TestGetOfEachKind(t *testing.T) {
	for o := range 256 {
		b := plainOctets()
		b[0] = byte(o)
		if o >= 1 && o <= 11 {
			e := plainEffect()
			e.Kind = o
			checkGet(t, b, e)
		} else {
			checkNoGet(t, "a Kind that is none", b)
		}
	}
	checkNoGet(t, "octets 0", make([]byte, size))
	checkNoGet(t, "octets 255", bytes.Repeat([]byte{255}, size))
}

// TestGetOfEachOctet has each octet at each number, and looks at whether the effect that they say may be.
func TestGetOfEachOctet(t *testing.T) {
	starts := [][]byte{plainOctets(), octetsOf(api.Effect{Kind: 1}), append([]byte{11}, bytes.Repeat([]byte{255}, size-1)...), make([]byte, size)}
	for _, start := range starts {
		for at := range size {
			for o := range 256 {
				b := slices.Clone(start)
				b[at] = byte(o)
				if e := effectOf(b); may(e) {
					checkGet(t, b, e)
				} else {
					checkNoGet(t, "what may not be", b)
				}
			}
		}
	}
}

// TestGetWritten has its answers written out.
func TestGetWritten(t *testing.T) {
	checkGet(t, []byte{1, 0, 0, 0, 0, 0, 0, 0, 0, 0, 0, 0, 0}, api.Effect{Kind: 1})
	checkGet(t, []byte{9, 3, 0, 0, 0, 0, 0, 0, 1, 0, 2, 1, 3}, api.Effect{Kind: 9, A: 3, N: 256, Ref: api.Id{Replica: 2, Seq: 259}})
	checkGet(t, []byte{7, 1, 255, 255, 255, 255, 255, 255, 255, 255, 0, 0, 0}, api.Effect{Kind: 7, A: 1, N: -1})
	checkGet(t, []byte{7, 1, 128, 0, 0, 0, 0, 0, 0, 0, 0, 0, 0}, api.Effect{Kind: 7, A: 1, N: math.MinInt64})
	checkGet(t, []byte{11, 255, 127, 255, 255, 255, 255, 255, 255, 255, 255, 255, 255}, api.Effect{Kind: 11, A: 255, N: math.MaxInt64, Ref: api.Id{Replica: 255, Seq: 65535}})
	checkNoGet(t, "Kind 0", []byte{0, 0, 0, 0, 0, 0, 0, 0, 0, 0, 0, 0, 0})
	checkNoGet(t, "Kind 12", []byte{12, 0, 0, 0, 0, 0, 0, 0, 0, 0, 0, 0, 0})
}

// TestThereAndBack: what is put comes back.
func TestThereAndBack(t *testing.T) {
	for _, e := range goodEffects() {
		b, no := effect.Put(e)
		back, no2 := effect.Get(b)
		if no != api.OK || no2 != api.OK || back != e || len(b) != size {
			t.Errorf("P10.1: %v is put as %v, %d, and comes back as %v, %d", e, b, no, back, no2)
		}
	}
}

// TestBackAndThere: octets that are taken are those that are put, and unlike ones are never taken as one effect.
func TestBackAndThere(t *testing.T) {
	random := rand.New(rand.NewSource(10))
	seen := map[api.Effect][size]byte{}
	for range 20000 {
		var b [size]byte
		random.Read(b[:])
		b[0] &= 15
		e, no := effect.Get(b[:])
		if (no == api.OK) != may(effectOf(b[:])) {
			t.Fatalf("P10.1: Get(%v) = %v, %d", b, e, no)
		}
		if no != api.OK {
			continue
		}
		if other, ok := seen[e]; ok && other != b {
			t.Errorf("P10.1: %v and %v are taken as %v", other, b, e)
		}
		seen[e] = b
		if back, no := effect.Put(e); no != api.OK || !bytes.Equal(back, b[:]) {
			t.Errorf("P10.1: %v is taken as %v, and put as %v, %d", b, e, back, no)
		}
	}
	if len(seen) < 1000 {
		t.Fatalf("just %d were taken", len(seen))
	}
}

// of are effects of those Kinds, each with its place as its N, and so unlike all others.
func of(kinds ...int) []api.Effect {
	l := []api.Effect{}
	for i, kind := range kinds {
		l = append(l, api.Effect{Kind: kind, A: i % 3, N: int64(i), Ref: api.Id{Replica: 1, Seq: i}})
	}
	return l
}

// at are those of l at these places.
func at(l []api.Effect, places ...int) []api.Effect {
	some := []api.Effect{}
	for _, i := range places {
		some = append(some, l[i])
	}
	return some
}

// wanted is what is wanted of effects, found by going through them twice.
func wanted(l []api.Effect, good bool) []api.Effect {
	var some []api.Effect
	for i := range l {
		if l[i].Kind > 0 && l[i].Kind < 7 {
			some = append(some, l[i])
		}
	}
	for i := range l {
		if good && l[i].Kind > 6 && l[i].Kind < 12 {
			some = append(some, l[i])
		}
	}
	return some
}

// TestWantWritten has the places of what is wanted written out.
func TestWantWritten(t *testing.T) {
	cases := []struct {
		name      string
		l         []api.Effect
		soon, all []int
	}{
		{"none", nil, nil, nil},
		{"none at all", []api.Effect{}, nil, nil},
		{"a mail", of(7), nil, []int{0}},
		{"a reserve", of(1), []int{0}, []int{0}},
		{"a pick and a dispatch", of(6, 11), []int{0}, []int{0, 1}},
		{"a dispatch and a pick", of(11, 6), []int{1}, []int{1, 0}},
		{"all Kinds, rising", of(1, 2, 3, 4, 5, 6, 7, 8, 9, 10, 11), []int{0, 1, 2, 3, 4, 5}, []int{0, 1, 2, 3, 4, 5, 6, 7, 8, 9, 10}},
		{"all Kinds, falling", of(11, 10, 9, 8, 7, 6, 5, 4, 3, 2, 1), []int{5, 6, 7, 8, 9, 10}, []int{5, 6, 7, 8, 9, 10, 0, 1, 2, 3, 4}},
		{"all Kinds, mixed", of(9, 3, 7, 6, 11, 1, 10, 4, 8, 2, 5), []int{1, 3, 5, 7, 9, 10}, []int{1, 3, 5, 7, 9, 10, 0, 2, 4, 6, 8}},
		{"a Kind twice", of(7, 1, 7, 1, 7), []int{1, 3}, []int{1, 3, 0, 2, 4}},
		{"Kinds that are none", of(0, 12, -1, 256, least, greatest, 263, 257), nil, nil},
		{"Kinds that are none among others", of(0, 8, 12, 5, -1, 7, 13, 2, greatest, least), []int{3, 7}, []int{3, 7, 1, 5}},
	}
	for _, c := range cases {
		checkWant(t, c.l, false, at(c.l, c.soon...))
		checkWant(t, c.l, true, at(c.l, c.all...))
	}
}

func TestWant(t *testing.T) {
	for n := range 80 {
		for _, l := range [][]api.Effect{someEffects(n), mixedEffects(n)} {
			checkWant(t, l, false, wanted(l, false))
			checkWant(t, l, true, wanted(l, true))
		}
	}
}

// TestWantOfEachKind has each Kind alone, and behind and ahead of others.
func TestWantOfEachKind(t *testing.T) {
	for _, n := range numbers() {
		for _, l := range [][]api.Effect{of(n), of(n, n), of(7, n, 1), of(n, 7, 1), of(1, 7, n)} {
			checkWant(t, l, false, wanted(l, false))
			checkWant(t, l, true, wanted(l, true))
		}
	}
}

// TestWantOfWhatMayNotBe: the Kind alone tells whether an effect counts; like ones each count.
func TestWantOfWhatMayNotBe(t *testing.T) {
	odd := api.Effect{Kind: 2, A: -1, N: math.MinInt64, Ref: api.Id{Replica: 256, Seq: least}}
	later := api.Effect{Kind: 10, A: greatest, N: -1, Ref: api.Id{Replica: -7, Seq: greatest}}
	l := []api.Effect{later, odd, odd, later, odd}
	checkWant(t, l, false, []api.Effect{odd, odd, odd})
	checkWant(t, l, true, []api.Effect{odd, odd, odd, later, later})
}

// TestWantOfNoOutcome: nothing is wanted of what came to an error, whatever effects it has.
func TestWantOfNoOutcome(t *testing.T) {
	codes := []api.Errno{api.ErrCount, api.ErrRange, api.ErrLong, api.ErrConfig, api.ErrOver, api.ErrState, api.ErrFull, api.ErrShort, api.ErrKind, api.ErrNone, api.ErrSyntax, api.ErrDown}
	codes = append(codes, 1, -1, 256, 1<<32, least, greatest)
	for _, code := range codes {
		for _, l := range [][]api.Effect{nil, {}, of(1), of(7), of(0), someEffects(20), mixedEffects(20)} {
			for _, good := range []bool{false, true} {
				if got := effect.Want(api.Outcome{Code: code, Effects: l}, good); len(got) != 0 {
					t.Errorf("P10.1: Want of %v with Code %d, %v, = %v; want nothing", l, code, good, got)
				}
			}
		}
	}
}

// TestWantBeginsAlike: what is wanted as long as it may change is what the rest begins with, and the rest is asked for later.
func TestWantBeginsAlike(t *testing.T) {
	for n := range 80 {
		for _, l := range [][]api.Effect{someEffects(n), mixedEffects(n)} {
			o := api.Outcome{Effects: l}
			soon, all := effect.Want(o, false), effect.Want(o, true)
			if len(soon) > len(all) || !slices.Equal(soon, all[:len(soon)]) || effect.Common(soon, all) != len(soon) {
				t.Errorf("P10.2: of %v is wanted %v, and for good %v", l, soon, all)
				continue
			}
			if slices.ContainsFunc(soon, effect.Later) || slices.ContainsFunc(all[len(soon):], func(e api.Effect) bool { return !effect.Later(e) }) {
				t.Errorf("P10.2: of %v is wanted at once %v, and later %v", l, soon, all[len(soon):])
			}
		}
	}
}

// TestCommonWritten has its answers written out.
func TestCommonWritten(t *testing.T) {
	a, b, c := api.Effect{Kind: 1, A: 1, N: 1}, api.Effect{Kind: 2, A: 1, N: 1}, api.Effect{}
	cases := []struct {
		a, b []api.Effect
		want int
	}{
		{nil, nil, 0},
		{nil, []api.Effect{}, 0},
		{[]api.Effect{}, []api.Effect{}, 0},
		{nil, []api.Effect{a}, 0},
		{[]api.Effect{}, []api.Effect{c}, 0},
		{[]api.Effect{a}, []api.Effect{a}, 1},
		{[]api.Effect{c}, []api.Effect{c}, 1},
		{[]api.Effect{a}, []api.Effect{b}, 0},
		{[]api.Effect{a, b}, []api.Effect{b, a}, 0},
		{[]api.Effect{a, b}, []api.Effect{a, b}, 2},
		{[]api.Effect{a, b, c}, []api.Effect{a, b}, 2},
		{[]api.Effect{a, b, c}, []api.Effect{a, c, c}, 1},
		{[]api.Effect{b, a, a, a}, []api.Effect{c, a, a, a}, 0},
		{[]api.Effect{a, a, a, a}, []api.Effect{a, a}, 2},
		{[]api.Effect{c, c, a}, []api.Effect{c, c, c}, 2},
		{[]api.Effect{a, b, a, b}, []api.Effect{a, b, b, a}, 2},
	}
	for _, c := range cases {
		checkCommon(t, c.a, c.b, c.want)
	}
}

// TestCommon has lists alike, such as the other begins with, and such as have one part alone unlike at one place.
func TestCommon(t *testing.T) {
	for _, n := range []int{0, 1, 2, 3, 8, 33} {
		l := mixedEffects(n)
		checkCommon(t, l, l, n)
		checkCommon(t, l, slices.Clone(l), n)
		for i := range n + 1 {
			checkCommon(t, l, slices.Clone(l[:i]), i)
			checkCommon(t, l[:i], l, i)
		}
		for i := range n {
			for _, p := range allParts() {
				other := slices.Clone(l)
				p.set(&other[i], 123456)
				checkCommon(t, l, other, i)
				checkCommon(t, l, append(other, other...), i)
			}
		}
	}
}

// TestCommonLooksAtWholeNumbers has parts whose lower bits are alike.
func TestCommonLooksAtWholeNumbers(t *testing.T) {
	for _, p := range allParts() {
		for _, more := range []int{1, -1, 256, 1 << 16, 1 << 32, -1 << 32, least} {
			a, b := with(p, 5), with(p, 5+more)
			checkCommon(t, []api.Effect{a}, []api.Effect{b}, 0)
			checkCommon(t, []api.Effect{a, a}, []api.Effect{a, b}, 1)
			checkCommon(t, []api.Effect{b, a}, []api.Effect{b, b}, 1)
		}
	}
}

// TestCommonLooksNoFurther: what lies behind a list in its own memory is not of it.
func TestCommonLooksNoFurther(t *testing.T) {
	l := someEffects(5)
	checkCommon(t, l[:2], slices.Clone(l)[:4], 2)
	checkCommon(t, l[:0], slices.Clone(l)[:0], 0)
	checkCommon(t, l[:3], l[:3], 3)
}

// TestTextOfEachKind has the words written out.
func TestTextOfEachKind(t *testing.T) {
	words := map[int]string{
		1: "reserve", 2: "adjust", 3: "release", 4: "authorize", 5: "label", 6: "pick",
		7: "mail", 8: "receipt", 9: "capture", 10: "repay", 11: "dispatch",
	}
	for _, n := range numbers() {
		word, ok := words[n]
		if !ok {
			word = "?"
		}
		checkText(t, api.Effect{Kind: n}, word+" 0 0")
		checkText(t, api.Effect{Kind: n, A: 3, N: 40, Ref: api.Id{Replica: 1, Seq: 2}}, word+" 3 40 1.2")
	}
}

// TestTextWritten has its answers written out.
func TestTextWritten(t *testing.T) {
	cases := []struct {
		e    api.Effect
		want string
	}{
		{api.Effect{}, "? 0 0"},
		{api.Effect{Kind: 1, A: 2, N: 3}, "reserve 2 3"},
		{api.Effect{Kind: 7, A: 0, N: 1, Ref: api.Id{Replica: 2, Seq: 5}}, "mail 0 1 2.5"},
		{api.Effect{Kind: 5, A: -1, N: -1}, "label -1 -1"},
		{api.Effect{Kind: 5, A: 10, N: 100}, "label 10 100"},
		{api.Effect{Kind: 5, A: least, N: math.MinInt64}, "label -9223372036854775808 -9223372036854775808"},
		{api.Effect{Kind: 5, A: greatest, N: math.MaxInt64}, "label 9223372036854775807 9223372036854775807"},
		{api.Effect{Kind: 4, A: 1, N: 1, Ref: api.Id{Replica: 1}}, "authorize 1 1 1.0"},
		{api.Effect{Kind: 4, A: 1, N: 1, Ref: api.Id{Seq: 1}}, "authorize 1 1 0.1"},
		{api.Effect{Kind: 4, A: 1, N: 1, Ref: api.Id{Replica: -1}}, "authorize 1 1 -1.0"},
		{api.Effect{Kind: 4, A: 1, N: 1, Ref: api.Id{Seq: -1}}, "authorize 1 1 0.-1"},
		{api.Effect{Kind: 4, A: 1, N: 1, Ref: api.Id{Replica: least, Seq: greatest}}, "authorize 1 1 -9223372036854775808.9223372036854775807"},
		{api.Effect{Kind: 12, A: 1, N: 1, Ref: api.Id{Replica: 3, Seq: 65535}}, "? 1 1 3.65535"},
		{api.Effect{Kind: least, A: 256, N: 1 << 40}, "? 256 1099511627776"},
	}
	for _, c := range cases {
		checkText(t, c.e, c.want)
	}
}

// TestText has numbers of any size in each place, against a library's texts.
func TestText(t *testing.T) {
	for _, p := range allParts()[1:] {
		for _, n := range numbers() {
			e := with(p, n)
			checkText(t, e, fmt.Sprintf("pick %d %d %d.%d", e.A, e.N, e.Ref.Replica, e.Ref.Seq))
			e = api.Effect{Kind: 11}
			p.set(&e, n)
			want := fmt.Sprintf("dispatch %d %d", e.A, e.N)
			if e.Ref != (api.Id{}) {
				want += fmt.Sprintf(" %d.%d", e.Ref.Replica, e.Ref.Seq)
			}
			checkText(t, e, want)
		}
	}
}

// withSpareRoom is l, with room behind it that is filled with one thing.
func withSpareRoom[T any](l []T, fill T) []T {
	room := slices.Concat(l, slices.Repeat([]T{fill}, 64))
	return room[:len(l):len(room)]
}

// isSpareRoom tells whether all room behind l is as withSpareRoom filled it.
func isSpareRoom[T comparable](l []T, fill T) bool {
	return !slices.ContainsFunc(l[len(l):cap(l)], func(x T) bool { return x != fill })
}

// spoil writes one thing all over l, and over the room behind it.
func spoil[T any](l []T, with T) {
	l = l[:cap(l)]
	for i := range l {
		l[i] = with
	}
}

// memoryLists are lists of effects of which Want wants all, some, or none.
func memoryLists() [][]api.Effect {
	return [][]api.Effect{nil, {}, of(1), of(7), of(0), of(1, 2, 3, 4), of(7, 8, 9), of(1, 2, 7, 8), of(7, 1), of(1, 0, 7), someEffects(40), mixedEffects(40)}
}

func TestWantDoesNotChangeNorShare(t *testing.T) {
	mark, ink := api.Effect{Kind: 1, N: -77}, api.Effect{Kind: 7, N: -78}
	for _, kept := range memoryLists() {
		for _, code := range []api.Errno{api.OK, api.ErrShort} {
			l := withSpareRoom(kept, mark)
			o := api.Outcome{Code: code, Effects: l}
			soon, all := effect.Want(o, false), effect.Want(o, true)
			soon2, all2 := effect.Want(o, false), effect.Want(o, true)
			wantSoon, wantAll := slices.Clone(soon), slices.Clone(all)
			if !slices.Equal(l, kept) || !isSpareRoom(l, mark) || len(o.Effects) != len(kept) || o.Code != code {
				t.Fatalf("P2: Want changed the outcome of %v that it was handed", kept)
			}
			spoil(append(soon, ink), ink)
			spoil(soon, ink)
			spoil(append(all, ink), ink)
			spoil(all, ink)
			if !slices.Equal(l, kept) || !isSpareRoom(l, mark) {
				t.Errorf("P2: what is written to Want's answer changes its outcome of %v", kept)
			}
			spoil(l, mark)
			if !slices.Equal(soon2, wantSoon) || !slices.Equal(all2, wantAll) {
				t.Errorf("P2: an answer of Want hangs on what became of another one, or of its outcome of %v", kept)
			}
		}
	}
}

func TestCommonDoesNotChange(t *testing.T) {
	mark := api.Effect{Kind: 3, N: -79}
	for _, kept := range memoryLists() {
		for _, other := range memoryLists() {
			a, b := withSpareRoom(kept, mark), withSpareRoom(other, mark)
			effect.Common(a, b)
			if !slices.Equal(a, kept) || !slices.Equal(b, other) || !isSpareRoom(a, mark) || !isSpareRoom(b, mark) {
				t.Errorf("P2: Common changed the lists %v and %v that it was handed", kept, other)
			}
		}
	}
}

func TestGetDoesNotChange(t *testing.T) {
	for _, n := range []int{0, 1, size - 1, size, size + 1, 2 * size} {
		kept := slices.Repeat(plainOctets(), 2)[:n]
		b := withSpareRoom(kept, 0x5a)
		e, no := effect.Get(b)
		if !bytes.Equal(b, kept) || !isSpareRoom(b, 0x5a) {
			t.Errorf("P2: Get changed the %d octets that it was handed", n)
		}
		spoil(b, 0xcc)
		if no == api.OK && e != plainEffect() {
			t.Errorf("P2: Get's answer hangs on what became of its octets: %v", e)
		}
	}
}

func TestPutsAnswersAreTheirOwn(t *testing.T) {
	first, _ := effect.Put(plainEffect())
	second, _ := effect.Put(plainEffect())
	spoil(append(first, 0xdd), 0xdd)
	spoil(first, 0xdd)
	third, _ := effect.Put(plainEffect())
	if !bytes.Equal(second, plainOctets()) || !bytes.Equal(third, plainOctets()) {
		t.Errorf("P2: Put's answers %v and %v hang on what became of another one", second, third)
	}
}
