package wal_test

import (
	"bytes"
	"math"
	"math/rand"
	"slices"
	"strconv"
	"testing"

	"countermand/api"
	"countermand/disk"
	"countermand/wal"
)

const (
	least    = math.MinInt
	greatest = math.MaxInt
	maxFrame = 4096
)

// none is what there is, if there is nothing.
func none() [][]byte { return nil }

func name(what string, n int) string { return what + " " + strconv.Itoa(n) }

// TestNew has its answers written out.
func TestNew(t *testing.T) {
	cases := []struct{ n, want int }{
		{least, 1}, {least + 1, 1}, {-1 << 32, 1}, {-1<<32 + 5, 1}, {-64, 1}, {-2, 1}, {-1, 1}, {0, 1}, {1, 1}, {2, 2}, {3, 3}, {32, 32},
		{62, 62}, {63, 63}, {64, 64}, {65, 64}, {66, 64}, {127, 64}, {128, 64}, {256, 64}, {1 << 16, 64}, {1 << 32, 64}, {1<<32 + 5, 64},
		{1 << 62, 64}, {1<<62 + 1, 64}, {1<<63 - 2, 64}, {greatest, 64},
	}
	for _, c := range cases {
		l := wal.New(c.n)
		what := name("New of", c.n)
		checkLog(t, what, l, newPlain(c.want))
		checkDisk(t, what, l.Disk(), newPlain(c.want))
		if l.Room() != 32*c.want || l.Durable() != 0 || l.Pending() != 0 || len(l.Records()) != 0 {
			t.Errorf("P12.1: %s: Room %d, Durable %d, Pending %d, Records %v", what, l.Room(), l.Durable(), l.Pending(), l.Records())
		}
		if d := l.Disk(); d.Len() != 2*c.want+1 || !bytes.Equal(d.All(), make([]byte, 32*(2*c.want+1))) || d.Dead() || d.Written() != 0 {
			t.Errorf("P12.1: %s: on its disk stands %v", what, d.All())
		}
		held(t, what+", Sync", l.Sync(), api.OK)
	}
}

// TestNewWorks: the disk that New makes is worked on, and neither dead nor armed.
func TestNewWorks(t *testing.T) {
	for _, n := range []int{1, 2, 64} {
		l, p := wal.New(n), newPlain(n)
		for k := range 6 {
			what := name("a new log", k)
			held(t, what, l.Append(rec(5, k)), p.add(rec(5, k)))
			held(t, what, l.Sync(), p.sync())
			checkLog(t, what, l, p)
			checkDisk(t, what, l.Disk(), p)
			held(t, what, l.Swap(rec(25, k)), p.swap(rec(25, k)))
			checkLog(t, what, l, p)
			checkDisk(t, what, l.Disk(), p)
		}
	}
	a, b := wal.New(2), wal.New(2)
	a.Append(rec(3, 1))
	a.Sync()
	checkLog(t, "another new log", b, newPlain(2))
	checkDisk(t, "another new log", b.Disk(), newPlain(2))
}

// TestExample is the chapter's: four frames of one octet fit into one sector, and a fifth does not.
func TestExample(t *testing.T) {
	for _, synced := range []bool{false, true} {
		l := wal.New(1)
		for k := range 4 {
			held(t, "a frame of one octet", l.Append([]byte{byte(k)}), api.OK)
			if l.Room() != 32-8*(k+1) {
				t.Errorf("P12.1: behind %d frames of one octet Room = %d", k+1, l.Room())
			}
			if synced {
				held(t, "Sync", l.Sync(), api.OK)
			}
		}
		held(t, "a fifth frame of one octet", l.Append([]byte{4}), api.ErrFull)
		checkRecords(t, "P12.1: four frames", l.Records(), [][]byte{{0}, {1}, {2}, {3}})
	}
}

// TestOctets: what stands on the disk is written out.
func TestOctets(t *testing.T) {
	a := []byte{0, 1, 0x61, 0xe8, 0xb7, 0xbe, 0x43, 0x5a}
	l := wal.New(1)
	l.Append([]byte("a"))
	if all := l.Disk().All(); !bytes.Equal(all, make([]byte, 96)) {
		t.Errorf("P12.1: what is pending stands on the disk: %v", all)
	}
	l.Sync()
	want := make([]byte, 96)
	copy(want[32:], a)
	if all := l.Disk().All(); !bytes.Equal(all, want) {
		t.Errorf("P12.1: behind Sync on the disk stands %v; want %v", all, want)
	}
	l.Swap([]byte("a"))
	copy(want[64:], a)
	want[0] = 1
	if all := l.Disk().All(); !bytes.Equal(all, want) {
		t.Errorf("P12.1: behind Swap on the disk stands %v; want %v", all, want)
	}
	l.Append([]byte("a"))
	l.Sync()
	copy(want[72:], a)
	if all := l.Disk().All(); !bytes.Equal(all, want) {
		t.Errorf("P12.1: behind Sync in the other half on the disk stands %v; want %v", all, want)
	}
	l.Swap([]byte("a"))
	want[0] = 0
	if all := l.Disk().All(); !bytes.Equal(all, want) {
		t.Errorf("P12.1: behind Swap into the first half on the disk stands %v; want %v", all, want)
	}
}

// state is a log of one kind, made anew each time.
type state struct {
	name string
	make func(t *testing.T) *pair
}

// built is a log of n sectors a half that was told what do tells.
func built(what string, n int, do func(t *testing.T, x *pair)) state {
	return state{what, func(t *testing.T) *pair {
		t.Helper()
		x := newPair(t, n)
		do(t, x)
		return x
	}}
}

// noise is n sectors, all octets of which are some that are no frames.
func noise(n int, k int) []byte {
	return bytes.Repeat([]byte{byte(255 - k%8), 0xa5, 0x5a}, n*size)[:n*size]
}

// dirty is a log of n sectors a half whose disk had octets of all kinds, also in the first sector, where this half is told.
func dirty(what string, n int, half byte, records ...[]byte) state {
	return state{what, func(t *testing.T) *pair {
		t.Helper()
		x := &pair{d: disk.New(2*n + 1), p: newPlain(n)}
		all := noise(2*n+1, n)
		all[0] = all[0]&^1 | half
		copy(all[(1+int(half)*n)*size:], slices.Concat(framed(records...), make([]byte, 8)))
		for i := range 2*n + 1 {
			x.d.Write(i, all[i*size:][:size])
			x.p.write(i, all[i*size:][:size])
		}
		if !x.open(t, what) {
			t.Fatalf("P12.1: %s: Open is false", what)
		}
		checkRecords(t, "P12.1: "+what, x.l.Records(), records)
		return x
	}}
}

// add appends records of these lengths.
func (x *pair) add(t *testing.T, lens ...int) {
	t.Helper()
	for k, n := range lens {
		x.append(t, "a record", rec(n, x.p.room()+k))
	}
}

// states are logs that nothing was told to, and such as have frames that end at, ahead of and behind the end of a sector.
func states() []state {
	return []state{
		built("a new log of one sector a half", 1, func(t *testing.T, x *pair) {}),
		built("a new log of two", 2, func(t *testing.T, x *pair) {}),
		built("one pending", 1, func(t *testing.T, x *pair) { x.add(t, 1) }),
		built("one that is as long as the half pending", 1, func(t *testing.T, x *pair) { x.add(t, 25) }),
		built("four pending", 1, func(t *testing.T, x *pair) { x.add(t, 1, 1, 1, 1) }),
		built("pending over three sectors", 4, func(t *testing.T, x *pair) { x.add(t, 5, 60, 2) }),
		built("one durable", 2, func(t *testing.T, x *pair) { x.add(t, 3); x.sync(t, "") }),
		built("one durable, one pending in the same sector", 2, func(t *testing.T, x *pair) { x.add(t, 3); x.sync(t, ""); x.add(t, 4) }),
		built("durable to a sector's end", 3, func(t *testing.T, x *pair) { x.add(t, 25); x.sync(t, ""); x.add(t, 1, 30) }),
		built("durable to one octet ahead of a sector's end", 3, func(t *testing.T, x *pair) { x.add(t, 24); x.sync(t, ""); x.add(t, 1, 2, 3) }),
		built("durable to one octet behind a sector's end", 3, func(t *testing.T, x *pair) { x.add(t, 26); x.sync(t, ""); x.add(t, 23, 1) }),
		built("a half full and durable", 2, func(t *testing.T, x *pair) { x.add(t, 25, 25); x.sync(t, "") }),
		built("a half full, the last ones pending", 3, func(t *testing.T, x *pair) { x.add(t, 40); x.sync(t, ""); x.add(t, 1, 34) }),
		built("records of octets 0", 5, func(t *testing.T, x *pair) {
			x.append(t, "", make([]byte, 2))
			x.sync(t, "")
			x.append(t, "", make([]byte, 100))
			x.append(t, "", make([]byte, 1))
		}),
		built("swapped once", 2, func(t *testing.T, x *pair) { x.add(t, 9, 9); x.sync(t, ""); x.swap(t, "", rec(7, 1)); x.add(t, 1, 30) }),
		built("swapped twice", 2, func(t *testing.T, x *pair) {
			x.add(t, 50)
			x.sync(t, "")
			x.swap(t, "", rec(57, 1))
			x.swap(t, "", rec(2, 2))
			x.add(t, 10, 20)
		}),
		built("swapped three times, what is pending lost", 3, func(t *testing.T, x *pair) {
			for k := range 3 {
				x.add(t, 10, 20)
				x.swap(t, "", rec(60+k, k))
			}
		}),
		built("synced in part", 3, func(t *testing.T, x *pair) {
			x.add(t, 10)
			x.sync(t, "")
			x.add(t, 5, 6, 7, 8)
			x.arm(40)
			x.sync(t, "")
			x.revive()
		}),
		built("swapped in part", 3, func(t *testing.T, x *pair) {
			x.add(t, 10, 11)
			x.sync(t, "")
			x.add(t, 5)
			x.arm(3*32 + 20)
			x.swap(t, "", rec(60, 3))
			x.revive()
		}),
		built("the other half told, and no more", 2, func(t *testing.T, x *pair) {
			x.add(t, 10)
			x.sync(t, "")
			x.add(t, 1)
			x.arm(3*32 + 1)
			x.swap(t, "", rec(20, 3))
			x.revive()
		}),
		built("the first half told anew, and no more", 2, func(t *testing.T, x *pair) {
			x.swap(t, "", rec(12, 4))
			x.add(t, 1, 2)
			x.arm(3*32 + 31)
			x.swap(t, "", rec(20, 3))
			x.revive()
		}),
		dirty("a disk of all kinds of octets", 2, 0),
		dirty("a disk of all kinds of octets, the other half", 2, 1),
		dirty("two records ahead of other octets", 4, 0, rec(3, 1), rec(33, 2)),
		dirty("two records ahead of other octets, the other half", 3, 1, rec(1, 1), rec(30, 2)),
		dirty("more sectors than New makes", 127, 1, rec(1, 1), rec(300, 2)),
	}
}

// TestAppend has frame.Put's errors, whatever else is there.
func TestAppend(t *testing.T) {
	for _, s := range states() {
		x := s.make(t)
		for _, n := range []int{0, maxFrame + 1, maxFrame, 70000, 1} {
			x.append(t, s.name, rec(n, 1))
		}
		held(t, s.name+", Append of nil", x.l.Append(nil), api.ErrRange)
		held(t, s.name+", Append of nothing", x.l.Append([]byte{}), api.ErrRange)
		held(t, s.name+", Append of MaxFrame octets", x.l.Append(make([]byte, maxFrame)), api.ErrFull)
		held(t, s.name+", Append of one more", x.l.Append(make([]byte, maxFrame+1)), api.ErrLong)
		x.check(t, s.name)
	}
}

// TestAppendFills: what just fills a half, and what is one octet too long.
func TestAppendFills(t *testing.T) {
	for _, n := range []int{1, 2, 3, 10, 64, 127} {
		for _, ahead := range [][]int{nil, {1}, {5, 6}} {
			for _, synced := range []bool{false, true} {
				x := newPair(t, n)
				x.add(t, ahead...)
				if synced {
					x.sync(t, "a half to be filled")
				}
				left := x.l.Room()
				what := name("a half with room for", left)
				if left < 8 {
					held(t, what, x.l.Append(rec(1, 9)), api.ErrFull)
					continue
				}
				held(t, what+", one octet too many", x.l.Append(rec(left-7+1, 9)), api.ErrFull)
				x.check(t, what+", one octet too many")
				held(t, what+", what fills it", x.l.Append(rec(left-7, 9)), x.p.add(rec(left-7, 9)))
				x.check(t, what+", what fills it")
				if x.l.Room() != 0 {
					t.Errorf("P12.1: %s: filled, Room = %d", what, x.l.Room())
				}
				held(t, what+", filled", x.l.Append(rec(1, 9)), api.ErrFull)
				x.sync(t, what)
				held(t, what+", filled and synced", x.l.Append(rec(1, 9)), api.ErrFull)
				x.open(t, what)
			}
		}
	}
}

// TestSyncWritten: which sectors are written is told by how many octets are, in numbers written out.
func TestSyncWritten(t *testing.T) {
	cases := []struct {
		name    string
		durable int
		pending []int
		want    int
	}{
		{"nothing", 0, nil, 0},
		{"nothing behind one", 1, nil, 0},
		{"nothing at a sector's end", 25, nil, 0},
		{"one", 0, []int{1}, 32},
		{"one behind one", 1, []int{1}, 32},
		{"four in one sector", 0, []int{1, 1, 1, 1}, 32},
		{"a sector's", 0, []int{25}, 32},
		{"one octet more", 0, []int{26}, 64},
		{"behind a sector's end", 25, []int{1}, 32},
		{"ahead of a sector's end", 24, []int{1}, 64},
		{"two sectors' behind one sector's", 25, []int{57}, 64},
		{"over five sectors", 3, []int{1, 120}, 160},
		{"all", 0, []int{185}, 192},
	}
	for _, c := range cases {
		x := newPair(t, 6)
		if c.durable > 0 {
			x.add(t, c.durable)
			x.sync(t, c.name)
		}
		x.add(t, c.pending...)
		before := x.d.Written()
		x.sync(t, c.name)
		if n := x.d.Written() - before; n != c.want {
			t.Errorf("P12.1: %s: Sync wrote %d octets; want %d", c.name, n, c.want)
		}
		before = x.d.Written()
		x.sync(t, c.name+", again")
		if n := x.d.Written() - before; n != 0 {
			t.Errorf("P12.1: %s: Sync with nothing pending wrote %d octets", c.name, n)
		}
	}
}

// TestSync goes on from each state.
func TestSync(t *testing.T) {
	for _, s := range states() {
		x := s.make(t)
		all := x.l.Records()
		x.sync(t, s.name)
		if x.l.Pending() != 0 || x.l.Durable() != len(all) {
			t.Errorf("P12.1: %s: behind Sync %d are pending, %d durable; want 0, %d", s.name, x.l.Pending(), x.l.Durable(), len(all))
		}
		checkRecords(t, "P12.1: "+s.name+", synced", x.l.Records(), all)
		x.add(t, 1)
		x.sync(t, s.name+", again")
		x.open(t, s.name)
	}
}

// TestSwap goes on from each state, several times: with a frame that fits, or just fits, or does not.
func TestSwap(t *testing.T) {
	for _, s := range states() {
		x := s.make(t)
		whole := x.p.n*size - 7
		before := x.p.clone()
		for _, c := range []struct {
			b []byte
			e api.Errno
		}{
			{nil, api.ErrRange}, {[]byte{}, api.ErrRange}, {rec(whole+1, 1), api.ErrFull}, {rec(maxFrame, 1), api.ErrFull}, {rec(maxFrame+1, 1), api.ErrLong}, {rec(70000, 1), api.ErrLong},
		} {
			held(t, name(s.name+", Swap of", len(c.b)), x.l.Swap(c.b), c.e)
			checkLog(t, s.name+", a Swap that can't be", x.l, before)
			checkDisk(t, s.name+", a Swap that can't be", x.d, before)
		}
		for k, n := range []int{min(5, whole), whole, 1, 1, whole, min(26, whole)} {
			half, written := x.d.All()[0]&1, x.d.Written()
			healed := 0
			if int(half) != x.p.half {
				healed = size
				half = 1 - half
			}
			x.swap(t, name(s.name+", Swap of", n), rec(n, k))
			checkRecords(t, "P12.1: "+s.name+", swapped", x.l.Records(), [][]byte{rec(n, k)})
			if x.l.Durable() != 1 || x.l.Pending() != 0 || x.d.All()[0]&1 != 1-half {
				t.Errorf("P12.1: %s: behind Swap %d are durable, %d pending, the first octet is %d", s.name, x.l.Durable(), x.l.Pending(), x.d.All()[0])
			}
			if want := healed + x.p.n*size + (n+7+31)/32*32 + size; x.d.Written()-written != want {
				t.Errorf("P12.1: %s: Swap of %d octets wrote %d; want %d", s.name, n, x.d.Written()-written, want)
			}
			if k%2 == 0 {
				x.append(t, s.name+", swapped", rec(1, k))
			}
			if k%3 == 0 {
				x.sync(t, s.name+", swapped")
			}
		}
		x.open(t, s.name+", swapped")
	}
}

// TestSwapKeepsTheFirstSector: but for the bit all octets of it stay.
func TestSwapKeepsTheFirstSector(t *testing.T) {
	x := dirty("other octets", 2, 0).make(t)
	first, _ := x.d.Read(0)
	for k := range 3 {
		x.swap(t, "other octets", rec(3, k))
		first[0] ^= 1
		if b, _ := x.d.Read(0); !bytes.Equal(b, first) {
			t.Errorf("P12.1: behind %d Swaps the first sector is %v; want %v", k+1, b, first)
		}
	}
}

// call is Sync or Swap.
type call struct {
	name string
	// alone is what a Swap is told.
	alone func(n int) []byte
}

func calls() []call {
	return []call{
		{"Sync", nil},
		{"Swap of one octet", func(n int) []byte { return rec(1, 77) }},
		{"Swap of a half", func(n int) []byte { return rec(n*size-7, 78) }},
	}
}

func (c call) do(t *testing.T, what string, x *pair) {
	t.Helper()
	if c.alone == nil {
		x.sync(t, what)
	} else {
		x.swap(t, what, c.alone(x.p.n))
	}
}

// cost is how many octets the call writes, if nothing goes wrong.
func (c call) cost(p *plain) int {
	q := p.clone()
	if c.alone == nil {
		q.sync()
	} else {
		q.swap(c.alone(q.n))
	}
	return q.written - p.written
}

// whole are the states in which the disk tells all that is durable.
func whole() []state {
	return slices.DeleteFunc(states(), func(s state) bool {
		return s.name == "the other half told, and no more" || s.name == "the first half told anew, and no more" || s.name == "more sectors than New makes"
	})
}

// mayBe tells whether l is all that was durable and some of the first ones of what was pending; or what a Swap had, alone.
func mayBe(l [][]byte, durable [][]byte, pending [][]byte, c call, n int) bool {
	if c.alone != nil && slices.EqualFunc(l, [][]byte{c.alone(n)}, bytes.Equal) {
		return true
	}
	all := slices.Concat(durable, pending)
	return len(l) >= len(durable) && len(l) <= len(all) && slices.EqualFunc(l, all[:len(l)], bytes.Equal)
}

// fuels are all numbers of octets up to that which the call writes, and some more.
func fuels(cost int) []int {
	var l []int
	for n := range cost + 1 {
		l = append(l, n)
	}
	return append(l, cost+1, cost+32, greatest)
}

// TestDies arms the disk with each number of octets: what is told by the log, by the octets of the disk, and when it's opened again.
func TestDies(t *testing.T) {
	for _, s := range whole() {
		for _, c := range calls() {
			first := s.make(t)
			cost := c.cost(first.p)
			for _, fuel := range fuels(cost) {
				what := name(s.name+", "+c.name+", armed with", fuel)
				x := s.make(t)
				durable, pending, room := x.l.Records()[:x.l.Durable()], x.l.Records()[x.l.Durable():], x.l.Room()
				x.arm(fuel)
				c.do(t, what, x)
				if dead := fuel < cost; x.d.Dead() != dead {
					t.Fatalf("P12.1: %s: Dead is %t; want %t", what, x.d.Dead(), dead)
				}
				if x.d.Dead() {
					checkRecords(t, "P12.1: "+what, x.l.Records(), slices.Concat(durable, pending))
					if x.l.Durable() != len(durable) || x.l.Pending() != len(pending) || x.l.Room() != room {
						t.Errorf("P12.1: %s: %d durable, %d pending, Room %d; want %d, %d, %d", what, x.l.Durable(), x.l.Pending(), x.l.Room(), len(durable), len(pending), room)
					}
					checkDown(t, what, x)
				}
				kept := x.l.Records()
				x.revive()
				d := x.d.Clone()
				checkOpened(t, what, d, func(l [][]byte) bool {
					if fuel >= cost {
						return slices.EqualFunc(l, kept, bytes.Equal)
					}
					return mayBe(l, durable, pending, c, x.p.n)
				})
			}
		}
	}
}

// checkDown has a dead disk: what is written answers ErrDown, what is not does not, and the errors that come ahead come ahead.
func checkDown(t *testing.T, what string, x *pair) {
	t.Helper()
	held(t, what+", Sync of a dead disk", x.l.Sync(), api.ErrDown)
	held(t, what+", Swap of a dead disk", x.l.Swap(rec(1, 5)), api.ErrDown)
	held(t, what+", Swap of nothing, of a dead disk", x.l.Swap(nil), api.ErrRange)
	held(t, what+", Swap of too much, of a dead disk", x.l.Swap(rec(maxFrame+1, 5)), api.ErrLong)
	held(t, what+", Swap of what has no room, of a dead disk", x.l.Swap(rec(x.p.n*size-6, 5)), api.ErrFull)
	if l, ok := wal.Open(x.d); ok || l != nil {
		t.Errorf("P12.1: %s: Open of a dead disk = %v, %t", what, l, ok)
	}
	x.check(t, what)
}

// checkOpened opens d again and again: all that it tells is as may be, and behind its frames all is 0.
func checkOpened(t *testing.T, what string, d *disk.Disk, fits func(l [][]byte) bool) {
	t.Helper()
	l, ok := wal.Open(d)
	if !ok {
		t.Fatalf("P12.2: %s: it can't be opened again", what)
	}
	if !fits(l.Records()) {
		t.Errorf("P12.2: %s: opened again, Records = %v", what, l.Records())
	}
	if l.Pending() != 0 || l.Durable() != len(l.Records()) {
		t.Errorf("P12.2: %s: opened again, %d are durable, %d pending of %d", what, l.Durable(), l.Pending(), len(l.Records()))
	}
	all, n := d.All(), (d.Len()-1)/2*size
	at := size + int(all[0]&1)*n
	if rest := all[at:][n-l.Room() : n]; slices.ContainsFunc(rest, func(o byte) bool { return o != 0 }) {
		t.Errorf("P12.1: %s: opened again, behind its frames stands %v", what, rest)
	}
	before, written := l.Records(), d.Written()
	l, ok = wal.Open(d)
	if !ok || !slices.EqualFunc(l.Records(), before, bytes.Equal) || !bytes.Equal(d.All(), all) || d.Written() != written {
		t.Errorf("P12.1: %s: opened twice, it's not as opened once", what)
	}
}

// TestDiesAgain: it dies, is revived and opened, and goes on; again and again, each time with other numbers of octets.
func TestDiesAgain(t *testing.T) {
	for _, s := range whole() {
		for start := range 40 {
			x := s.make(t)
			for k := range 12 {
				what := name(name(s.name+", armed again from", start), k)
				if x.p.room() > 40 {
					x.add(t, 1, 9)
				}
				durable, pending := x.l.Records()[:x.l.Durable()], x.l.Records()[x.l.Durable():]
				c := calls()[(k*7+start)%3]
				x.arm((start*29 + k*23) % (c.cost(x.p) + 40))
				c.do(t, what, x)
				down := x.d.Dead()
				kept := x.l.Records()
				x.revive()
				x.open(t, what)
				l := x.l.Records()
				if down && !mayBe(l, durable, pending, c, x.p.n) {
					t.Errorf("P12.2: %s: opened again, Records = %v", what, l)
				}
				if !down {
					checkRecords(t, "P12.2: "+what, l, kept)
				}
			}
		}
	}
}

// TestGoesOn: it dies, and is revived; the log that was not opened anew has what it had, and what it then says is durable is so.
func TestGoesOn(t *testing.T) {
	for _, s := range states() {
		for _, c := range calls() {
			cost := c.cost(s.make(t).p)
			for fuel := 0; fuel < cost; fuel += 1 + cost/100 {
				for _, next := range calls() {
					what := name(s.name+", "+c.name+", armed with", fuel) + ", then " + next.name
					x := s.make(t)
					x.arm(fuel)
					c.do(t, what, x)
					held(t, what+", Append to a dead disk's", x.l.Append(rec(1, 3)), x.p.add(rec(1, 3)))
					x.check(t, what)
					x.revive()
					x.check(t, what+", revived")
					held(t, what+", Append to a revived disk's", x.l.Append(rec(1, 4)), x.p.add(rec(1, 4)))
					next.do(t, what, x)
					if x.l.Pending() != 0 {
						t.Errorf("P12.1: %s: %d are pending", what, x.l.Pending())
					}
					checkOpened(t, what, x.d.Clone(), func(l [][]byte) bool { return slices.EqualFunc(l, x.l.Records(), bytes.Equal) })
				}
			}
		}
	}
}

// TestDiesWhereItDied: it dies a second time, and was not opened in between.
func TestDiesWhereItDied(t *testing.T) {
	x := newPair(t, 2)
	x.add(t, 10)
	x.sync(t, "")
	x.add(t, 1)
	x.arm(3*size + 1)
	x.swap(t, "the other half told", rec(20, 3))
	x.revive()
	for fuel := range 6 * size {
		y := &pair{l: x.l, d: x.d, p: x.p}
		y.arm(fuel)
		y.swap(t, name("the other half told, armed with", fuel), rec(21, 4))
		y.revive()
		checkOpened(t, name("the other half told, armed with", fuel), y.d.Clone(), func(l [][]byte) bool {
			return fuel == 0 && slices.EqualFunc(l, [][]byte{rec(20, 3)}, bytes.Equal) ||
				slices.EqualFunc(l, [][]byte{rec(21, 4)}, bytes.Equal) || slices.EqualFunc(l, x.l.Records()[:1], bytes.Equal)
		})
		if y.l.Pending() == 0 {
			break
		}
	}
}

// TestDead: a disk that is dead already.
func TestDead(t *testing.T) {
	for _, s := range whole() {
		x := s.make(t)
		x.arm(0)
		x.d.Write(1, make([]byte, size))
		x.p.write(1, make([]byte, size))
		x.check(t, s.name+", dead")
		checkDown(t, s.name, x)
		x.append(t, s.name+", dead", rec(1, 8))
		x.append(t, s.name+", dead", nil)
		x.append(t, s.name+", dead", rec(maxFrame+1, 8))
		x.append(t, s.name+", dead", rec(maxFrame, 8))
		checkDown(t, s.name, x)
		x.revive()
		x.check(t, s.name+", revived")
		x.sync(t, s.name+", revived")
		x.swap(t, s.name+", revived", rec(4, 4))
		x.open(t, s.name+", revived")
	}
}

// TestOpenLengths has disks of all numbers of sectors.
func TestOpenLengths(t *testing.T) {
	for n := range 257 {
		d := disk.New(n)
		l, ok := wal.Open(d)
		what := name("Open of a disk of so many sectors:", n)
		if want := n >= 3 && n%2 == 1; ok != want || (l != nil) != want {
			t.Fatalf("P12.1: %s: %v, %t; want %t", what, l, ok, want)
		}
		if d.Written() != 0 || !bytes.Equal(d.All(), make([]byte, n*size)) {
			t.Errorf("P12.1: %s: it wrote %d octets", what, d.Written())
		}
		if ok {
			checkLog(t, what, l, newPlain(n/2))
			checkDisk(t, what, l.Disk(), newPlain(n/2))
		}
	}
}

// TestOpenRefused: neither of nothing, nor of a disk that is none, nor of a dead one; and nothing is changed.
func TestOpenRefused(t *testing.T) {
	dead := disk.New(5)
	dead.Arm(7)
	dead.Write(2, noise(1, 0))
	for _, c := range []struct {
		name string
		d    *disk.Disk
	}{{"nil", nil}, {"one that New did not make", &disk.Disk{}}, {"a dead one", dead}, {"none", disk.New(0)}, {"two", disk.New(2)}} {
		all, written, isDead := c.d.All(), c.d.Written(), c.d.Dead()
		if l, ok := wal.Open(c.d); ok || l != nil {
			t.Errorf("P12.1: Open of %s = %v, %t", c.name, l, ok)
		}
		if !bytes.Equal(c.d.All(), all) || c.d.Written() != written || c.d.Dead() != isDead {
			t.Errorf("P12.1: Open of %s changed it", c.name)
		}
	}
	dead.Revive()
	if _, ok := wal.Open(dead); !ok {
		t.Error("P12.1: Open of a disk that was revived is false")
	}
}

// laid is a disk of n sectors a half: these octets in the half that counts, others in the other one.
func laid(n int, half byte, octets []byte) (*disk.Disk, *plain) {
	all := noise(2*n+1, 3)
	all[0] = all[0]&^1 | half
	at := (1 + int(half)*n) * size
	clear(all[at : at+n*size])
	copy(all[at:at+n*size], octets)
	d, p := disk.New(2*n+1), newPlain(n)
	for i := range 2*n + 1 {
		d.Write(i, all[i*size:][:size])
		p.write(i, all[i*size:][:size])
	}
	return d, p
}

// kinds are octets that a half may begin with, and how many of the records a, b it tells then.
func kinds() []struct {
	name   string
	octets []byte
	want   int
} {
	a, b := framed(rec(5, 1)), framed(rec(60, 2))
	both := slices.Concat(a, b)
	broken := func(at int) []byte {
		c := slices.Clone(both)
		c[at] ^= 0x10
		return c
	}
	return []struct {
		name   string
		octets []byte
		want   int
	}{
		{"octets 0", nil, 0},
		{"one octet that is not 0, the first one", []byte{1}, 0},
		{"one octet that is not 0, in the midst", slices.Concat(make([]byte, 45), []byte{1}), 0},
		{"one octet that is not 0, a sector's last one", slices.Concat(make([]byte, 63), []byte{1}), 0},
		{"one octet that is not 0, the last one", slices.Concat(make([]byte, 159), []byte{1}), 0},
		{"one octet that is not 0 behind a frame, the last one", slices.Concat(a, make([]byte, 147), []byte{1}), 1},
		{"octets of all kinds", noise(5, 0), 0},
		{"octets 255", bytes.Repeat([]byte{255}, 160), 0},
		{"frames", both, 2},
		{"frames ahead of others", slices.Concat(both, noise(5, 1)), 2},
		{"frames ahead of others, behind octets 0", slices.Concat(both, make([]byte, 50), noise(5, 1)), 2},
		{"a frame behind one octet 0", slices.Concat([]byte{0}, a), 0},
		{"a frame behind a gap", slices.Concat(a, []byte{0}, b), 1},
		{"a frame whose last octet is missing", both[:len(both)-1], 1},
		{"a frame whose last octet is other", broken(len(both) - 1), 1},
		{"a frame whose sum is other", broken(len(both) - 3), 1},
		{"a frame that tells another length", broken(len(a) + 1), 1},
		{"a frame one of whose octets is other", broken(len(a) + 20), 1},
		{"the first frame broken", broken(3), 0},
		{"a frame that is longer than the half", slices.Concat(a, framed(rec(200, 3))), 1},
		{"a frame that is one octet longer than the half", slices.Concat(a, framed(rec(142, 3))), 1},
		{"frames to the end of a sector", slices.Concat(a, framed(rec(13, 4)), []byte{0, 1}), 2},
	}
}

// TestOpen has halves of all kinds of octets.
func TestOpen(t *testing.T) {
	for _, k := range kinds() {
		for _, half := range []byte{0, 1} {
			what := name(k.name+", half", int(half))
			d, p := laid(5, half, k.octets)
			x := &pair{d: d, p: p}
			before := d.All()
			if !x.open(t, what) {
				t.Fatalf("P12.1: %s: Open is false", what)
			}
			if x.l.Durable() != k.want {
				t.Errorf("P12.1: %s: Durable = %d; want %d", what, x.l.Durable(), k.want)
			}
			at := (1 + int(half)*5) * size
			want := slices.Clone(before)
			clear(want[at+160-x.l.Room() : at+160])
			if all := d.All(); !bytes.Equal(all, want) {
				t.Errorf("P12.1: %s: behind Open on the disk stands %v; want %v", what, all, want)
			}
			if n, want := d.Written()-11*size, size*unlike(before, want); n != want {
				t.Errorf("P12.1: %s: Open wrote %d octets; want %d", what, n, want)
			}
			written := d.Written()
			x.open(t, what+", again")
			if d.Written() != written {
				t.Errorf("P12.1: %s: opened again, it wrote %d octets", what, d.Written()-written)
			}
			x.append(t, what, rec(1, 1))
			x.sync(t, what)
			x.open(t, what)
			x.swap(t, what, rec(9, 1))
			x.open(t, what)
		}
	}
}

// unlike is how many sectors are not alike.
func unlike(a []byte, b []byte) int {
	n := 0
	for at := 0; at < len(a); at += size {
		if !bytes.Equal(a[at:at+size], b[at:at+size]) {
			n++
		}
	}
	return n
}

// TestOpenDies: the disk dies in Open, with each number of octets, and is opened again.
func TestOpenDies(t *testing.T) {
	for _, k := range kinds() {
		for _, half := range []byte{0, 1} {
			d, p := laid(5, half, k.octets)
			q := p.clone()
			q.open()
			cost := q.written - p.written
			for _, fuel := range fuels(cost) {
				what := name(name(k.name+", half", int(half))+", armed with", fuel)
				x := &pair{d: d.Clone(), p: p.clone()}
				x.arm(fuel)
				l, ok := wal.Open(x.d)
				if ok != (fuel >= cost) || ok != x.p.open() || ok != (l != nil) || x.d.Dead() == ok {
					t.Errorf("P12.1: %s: Open = %v, %t, Dead %t", what, l, ok, x.d.Dead())
				}
				checkDisk(t, what, x.d, x.p)
				x.revive()
				if !x.open(t, what) {
					t.Errorf("P12.1: %s: it can't be opened again", what)
				}
				checkRecords(t, "P12.2: "+what, x.l.Records(), q.durable)
			}
		}
	}
}

// TestFirstOctet: of the first octet just the lowest bit tells which half counts.
func TestFirstOctet(t *testing.T) {
	for first := range 256 {
		d := disk.New(5)
		head := make([]byte, size)
		head[0], head[1], head[31] = byte(first), byte(1-first%2), 1
		d.Write(0, head)
		for half := range 2 {
			s := make([]byte, size)
			copy(s, framed(rec(3, half)))
			d.Write(1+2*half, s)
		}
		l, ok := wal.Open(d)
		if !ok {
			t.Fatalf("P12.1: the first octet is %d: Open is false", first)
		}
		checkRecords(t, name("P12.1: the first octet is", first), l.Records(), [][]byte{rec(3, first%2)})
	}
}

// TestWorksOn: Open's disk is worked on, Disk's is a clone, and neither knows of the other.
func TestWorksOn(t *testing.T) {
	x := newPair(t, 2)
	x.add(t, 3)
	x.sync(t, "a log")
	if all := x.d.All(); !bytes.Equal(all[size:][:10], framed(rec(3, 64))) {
		t.Errorf("P12.1: on Open's disk stands %v", all)
	}
	c := x.l.Disk()
	for i := range c.Len() {
		c.Write(i, noise(1, i))
	}
	c.Arm(0)
	c.Write(0, noise(1, 0))
	x.check(t, "a log whose disk's clone was written to, and is dead")
	x.add(t, 4)
	x.sync(t, "a log whose disk's clone was written to, and is dead")
	if b, ok := wal.Open(x.l.Disk()); !ok || b.Durable() != 2 {
		t.Error("P12.1: a clone of the disk has not what is durable")
	} else {
		b.Append(rec(1, 1))
		b.Sync()
		b.Swap(rec(2, 1))
		x.check(t, "a log whose disk's clone has another log")
	}
	x.arm(3)
	x.add(t, 1)
	if x.l.Disk().Write(0, make([]byte, size)) {
		t.Error("P12.1: a clone of an armed disk is not armed")
	}
	x.sync(t, "a log whose disk is armed")
	if !x.l.Disk().Dead() || !x.d.Dead() {
		t.Error("P12.1: a clone of a dead disk is not dead")
	}
}

// spared is b with room behind it that is marked.
func spared(b []byte) []byte {
	l := append(slices.Clone(b), bytes.Repeat([]byte{0xee}, 40)...)
	return l[:len(b)]
}

// checkSpared: neither b nor the room behind it was touched.
func checkSpared(t *testing.T, what string, b []byte, want []byte) {
	t.Helper()
	if !bytes.Equal(b, want) || !bytes.Equal(b[:len(b)+40][len(b):], bytes.Repeat([]byte{0xee}, 40)) {
		t.Errorf("P2: %s: what was handed in is %v, and behind it %v", what, b, b[:len(b)+40][len(b):])
	}
}

// blot writes over all of b, and over the room behind it.
func blot(b []byte) {
	b = b[:cap(b)]
	for i := range b {
		b[i] ^= 0xff
	}
}

// TestMemory: what is handed in is neither changed nor kept, and what is answered is new.
func TestMemory(t *testing.T) {
	x := newPair(t, 3)
	a, b := spared(rec(3, 1)), spared(rec(4, 2))
	x.append(t, "a", a)
	checkSpared(t, "Append", a, rec(3, 1))
	blot(a)
	x.check(t, "what was appended is blotted")
	x.append(t, "b", b)
	x.sync(t, "b")
	blot(b)
	x.check(t, "what was synced is blotted")
	x.add(t, 5)
	for range 2 {
		l := x.l.Records()
		for _, r := range l {
			blot(r)
			_ = append(r, 1, 2, 3)
		}
		blotted := append(l, rec(1, 1))
		clear(blotted)
		x.check(t, "Records are blotted")
	}
	l, m := x.l.Records(), x.l.Records()
	for i := range l {
		blot(l[i])
		if !bytes.Equal(m[i], x.p.records()[i]) {
			t.Error("P2: two lists of Records share their octets")
		}
	}
	for i := range m[:len(m)-1] {
		_ = append(m[i], bytes.Repeat([]byte{0xcc}, 20)...)
		if !bytes.Equal(m[i+1], x.p.records()[i+1]) {
			t.Error("P2: Records share their octets among each other")
		}
	}
	c := spared(rec(20, 3))
	x.swap(t, "c", c)
	checkSpared(t, "Swap", c, rec(20, 3))
	blot(c)
	x.check(t, "what was swapped is blotted")
	for _, r := range x.l.Records() {
		blot(r)
	}
	x.check(t, "Records of what was swapped are blotted")
	x.add(t, 5, 6)
	x.sync(t, "behind what was swapped")
	x.open(t, "behind what was swapped")
	for _, r := range x.l.Records() {
		blot(r)
	}
	x.add(t, 7)
	x.check(t, "Records of what was opened are blotted")
}

// TestRefusedKeep: what is refused is not changed, and nothing of it is left.
func TestRefusedKeep(t *testing.T) {
	x := newPair(t, 1)
	long, full := spared(rec(maxFrame+1, 1)), spared(rec(26, 1))
	x.append(t, "too long", long)
	x.append(t, "no room", full)
	x.swap(t, "too long", long)
	x.swap(t, "no room", full)
	checkSpared(t, "too long", long, rec(maxFrame+1, 1))
	checkSpared(t, "no room", full, rec(26, 1))
	x.arm(0)
	b := spared(rec(25, 1))
	x.swap(t, "dead", b)
	checkSpared(t, "dead", b, rec(25, 1))
}

// TestNoLog: nil, and one that neither New nor Open made.
func TestNoLog(t *testing.T) {
	for _, c := range []struct {
		name string
		l    *wal.Log
	}{{"nil", nil}, {"one that was not made", &wal.Log{}}} {
		for range 2 {
			for _, b := range [][]byte{nil, {}, {1}, make([]byte, maxFrame), make([]byte, maxFrame+1)} {
				held(t, c.name+", Append", c.l.Append(b), api.ErrState)
				held(t, c.name+", Swap", c.l.Swap(b), api.ErrState)
			}
			held(t, c.name+", Sync", c.l.Sync(), api.ErrState)
			if c.l.Disk() != nil || c.l.Room() != 0 || c.l.Durable() != 0 || c.l.Pending() != 0 {
				t.Errorf("P12.1: %s: Disk %v, Room %d, Durable %d, Pending %d", c.name, c.l.Disk(), c.l.Room(), c.l.Durable(), c.l.Pending())
			}
			checkRecords(t, "P12.1: "+c.name, c.l.Records(), none())
		}
	}
}

// TestWays goes long ways of calls by chance, the same ones each time.
func TestWays(t *testing.T) {
	chance := rand.New(rand.NewSource(12))
	for round := range 150 {
		n := 1 + chance.Intn(5)
		x := newPair(t, n)
		for step := range 60 {
			what := name(name("way", round), step)
			switch k := chance.Intn(20); {
			case k < 8:
				b := rec(1+chance.Intn(n*20), chance.Intn(99))
				if chance.Intn(3) == 0 {
					clear(b)
				}
				x.append(t, what, b)
			case k < 12:
				x.sync(t, what)
			case k < 14:
				x.swap(t, what, rec(1+chance.Intn(n*size), chance.Intn(99)))
			case k < 17:
				x.arm(chance.Intn(n*80) - 2)
			default:
				if x.d.Dead() || k == 19 {
					x.revive()
				}
				if k > 17 && !x.open(t, what) && !x.d.Dead() {
					t.Fatalf("P12.1: %s: it can't be opened", what)
				}
			}
			x.check(t, what)
		}
	}
}

// TestSame: logs that were told the same tell the same.
func TestSame(t *testing.T) {
	for _, s := range states() {
		x, y := s.make(t), s.make(t)
		for k := range 3 {
			if x.l.Append(rec(k, 1)) != y.l.Append(rec(k, 1)) || x.l.Sync() != y.l.Sync() || x.l.Swap(rec(k+1, 1)) != y.l.Swap(rec(k+1, 1)) {
				t.Errorf("P3: %s: two logs that were told the same are not alike", s.name)
			}
			if !bytes.Equal(x.d.All(), y.d.All()) || x.d.Written() != y.d.Written() {
				t.Errorf("P3: %s: the disks of two logs that were told the same are not alike", s.name)
			}
		}
	}
}
