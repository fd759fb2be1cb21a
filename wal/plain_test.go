package wal_test

import (
	"bytes"
	"hash/crc32"
	"slices"
	"testing"

	"countermand/api"
	"countermand/disk"
	"countermand/wal"
)

const size = 32

// plain is a log, and its disk, by a reckoning of its own: one row of octets, written one by one.
type plain struct {
	n       int
	row     []byte
	armed   bool
	left    int
	dead    bool
	written int
	half    int
	durable [][]byte
	pending [][]byte
}

func newPlain(n int) *plain {
	return &plain{n: n, row: make([]byte, (2*n+1)*size)}
}

func (p *plain) clone() *plain {
	c := *p
	c.row = slices.Clone(p.row)
	c.durable = slices.Clone(p.durable)
	c.pending = slices.Clone(p.pending)
	return &c
}

// framed is the frames of some records by a reckoning of its own, one behind the other.
func framed(records ...[]byte) []byte {
	var all []byte
	for _, b := range records {
		sum := crc32.ChecksumIEEE(b)
		all = append(all, byte(len(b)>>8), byte(len(b)))
		all = append(all, b...)
		all = append(all, byte(sum>>24), byte(sum>>16), byte(sum>>8), byte(sum), 0x5a)
	}
	return all
}

// unframed is the records of the frames that b begins with, and how many octets those have.
func unframed(b []byte) ([][]byte, int) {
	var l [][]byte
	at := 0
	for {
		rest := b[at:]
		if len(rest) < 8 {
			return l, at
		}
		n := int(rest[0])<<8 | int(rest[1])
		if n == 0 || n > 4096 || len(rest) < n+7 || !bytes.Equal(framed(rest[2:2+n]), rest[:n+7]) {
			return l, at
		}
		l = append(l, slices.Clone(rest[2:2+n]))
		at += n + 7
	}
}

func (p *plain) arm(n int) {
	if !p.dead {
		p.armed, p.left = n >= 0, n
	}
}

func (p *plain) revive() {
	p.dead, p.armed = false, false
}

// write writes one sector, octet by octet; false, if the disk is dead then.
func (p *plain) write(i int, s []byte) bool {
	if p.dead {
		return false
	}
	for at, o := range s {
		if p.armed && p.left == 0 {
			p.dead, p.armed = true, false
			return false
		}
		p.row[i*size+at] = o
		p.written++
		p.left--
	}
	return true
}

// region is where in the row a half begins.
func (p *plain) region(half int) int {
	return size * (1 + half*p.n)
}

// put writes octets that are new, from the octet at of a half on, sector by sector.
func (p *plain) put(half int, at int, b []byte) bool {
	want := slices.Clone(p.row[p.region(half):][:p.n*size])
	copy(want[at:], b)
	for i := range p.n {
		if min(at+len(b), (i+1)*size) <= max(at, i*size) {
			continue
		}
		if !p.write(1+half*p.n+i, want[i*size:][:size]) {
			return false
		}
	}
	return true
}

// tell writes the first sector with a half's bit.
func (p *plain) tell(half int) bool {
	first := slices.Clone(p.row[:size])
	first[0] = first[0]>>1<<1 + byte(half)
	return p.write(0, first)
}

// right writes the first sector, if it tells the half that does not count.
func (p *plain) right() bool {
	return int(p.row[0]%2) == p.half || p.tell(p.half)
}

func (p *plain) records() [][]byte {
	return slices.Concat(p.durable, p.pending)
}

func (p *plain) room() int {
	return p.n*size - len(framed(p.records()...))
}

// wrong is frame.Put's error of b, or that there is no room for its frame.
func wrong(b []byte, room int) api.Errno {
	switch {
	case len(b) == 0:
		return api.ErrRange
	case len(b) > 4096:
		return api.ErrLong
	case len(b)+7 > room:
		return api.ErrFull
	}
	return api.OK
}

func (p *plain) add(b []byte) api.Errno {
	e := wrong(b, p.room())
	if e == api.OK {
		p.pending = append(p.pending, slices.Clone(b))
	}
	return e
}

func (p *plain) sync() api.Errno {
	if p.dead || !p.right() || !p.put(p.half, len(framed(p.durable...)), framed(p.pending...)) {
		return api.ErrDown
	}
	p.durable, p.pending = p.records(), nil
	return api.OK
}

func (p *plain) swap(b []byte) api.Errno {
	if e := wrong(b, p.n*size); e != api.OK {
		return e
	}
	o := 1 - p.half
	if p.dead || !p.right() || !p.put(o, 0, make([]byte, p.n*size)) || !p.put(o, 0, framed(b)) || !p.tell(o) {
		return api.ErrDown
	}
	p.half, p.durable, p.pending = o, [][]byte{slices.Clone(b)}, nil
	return api.OK
}

// open is the log anew, of its disk alone; false, if the disk is dead, or dies.
func (p *plain) open() bool {
	if p.dead {
		return false
	}
	half := int(p.row[0] % 2)
	at := p.region(half)
	l, n := unframed(p.row[at:][:p.n*size])
	for i := range p.n {
		s := slices.Clone(p.row[at+i*size:][:size])
		some := false
		for j := range s {
			if i*size+j >= n && s[j] != 0 {
				s[j], some = 0, true
			}
		}
		if some && !p.write(1+half*p.n+i, s) {
			return false
		}
	}
	p.half, p.durable, p.pending = half, l, nil
	return true
}

// pair is a log, the disk that it works on, and both by the other reckoning.
type pair struct {
	l *wal.Log
	d *disk.Disk
	p *plain
}

// newPair is a new log of n sectors a half, upon a disk that is at hand.
func newPair(t *testing.T, n int) *pair {
	t.Helper()
	d := disk.New(2*n + 1)
	l, ok := wal.Open(d)
	if !ok {
		t.Fatalf("P12.1: Open of a new disk of %d sectors is false", 2*n+1)
	}
	return &pair{l: l, d: d, p: newPlain(n)}
}

func (x *pair) arm(n int) {
	x.d.Arm(n)
	x.p.arm(n)
}

func (x *pair) revive() {
	x.d.Revive()
	x.p.revive()
}

func (x *pair) append(t *testing.T, what string, b []byte) {
	t.Helper()
	held(t, what+", Append", x.l.Append(b), x.p.add(b))
	x.check(t, what+", Append")
}

func (x *pair) sync(t *testing.T, what string) {
	t.Helper()
	held(t, what+", Sync", x.l.Sync(), x.p.sync())
	x.check(t, what+", Sync")
}

func (x *pair) swap(t *testing.T, what string, b []byte) {
	t.Helper()
	held(t, what+", Swap", x.l.Swap(b), x.p.swap(b))
	x.check(t, what+", Swap")
}

// open opens the log anew; what was told so far of the old one stays, if it's false.
func (x *pair) open(t *testing.T, what string) bool {
	t.Helper()
	l, ok := wal.Open(x.d)
	if want := x.p.open(); ok != want || ok != (l != nil) {
		t.Fatalf("P12.1: %s, Open = %v, %t; want %t", what, l, ok, want)
	}
	if ok {
		x.l = l
	}
	x.check(t, what+", Open")
	return ok
}

func held(t *testing.T, what string, got api.Errno, want api.Errno) {
	t.Helper()
	if got != want {
		t.Errorf("P12.1: %s: error %d; want %d", what, got, want)
	}
}

// check holds all that the log and its disk can be asked against what the other reckoning tells.
func (x *pair) check(t *testing.T, what string) {
	t.Helper()
	// Twice: asking changes nothing.
	for range 2 {
		checkLog(t, what, x.l, x.p)
		checkDisk(t, what, x.d, x.p)
		checkDisk(t, what+", Disk", x.l.Disk(), x.p)
	}
}

func checkLog(t *testing.T, what string, l *wal.Log, p *plain) {
	t.Helper()
	if l.Durable() != len(p.durable) || l.Pending() != len(p.pending) {
		t.Errorf("P12.1: %s: %d durable, %d pending; want %d, %d", what, l.Durable(), l.Pending(), len(p.durable), len(p.pending))
	}
	if l.Room() != p.room() {
		t.Errorf("P12.1: %s: Room = %d; want %d", what, l.Room(), p.room())
	}
	checkRecords(t, "P12.1: "+what, l.Records(), p.records())
}

func checkRecords(t *testing.T, what string, l [][]byte, want [][]byte) {
	t.Helper()
	if !slices.EqualFunc(l, want, bytes.Equal) {
		t.Errorf("%s: Records = %v; want %v", what, l, want)
	}
}

func checkDisk(t *testing.T, what string, d *disk.Disk, p *plain) {
	t.Helper()
	if d.Len() != 2*p.n+1 || d.Dead() != p.dead || d.Written() != p.written {
		t.Errorf("P12.1: %s: the disk has %d sectors, is dead: %t, and was written %d octets; want %d, %t, %d", what, d.Len(), d.Dead(), d.Written(), 2*p.n+1, p.dead, p.written)
	}
	if all := d.All(); !bytes.Equal(all, p.row) {
		t.Errorf("P12.1: %s: on the disk stands %v; want %v", what, all, p.row)
	}
}

// rec is a record of n octets, none 0; those of another k are others.
func rec(n int, k int) []byte {
	b := make([]byte, n)
	for i := range b {
		b[i] = byte(1 + (41*k+11*i)%255)
	}
	return b
}
