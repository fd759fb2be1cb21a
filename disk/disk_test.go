package disk_test

import (
	"bytes"
	"math"
	"math/rand"
	"slices"
	"strconv"
	"testing"

	"countermand/disk"
)

const (
	least    = math.MinInt
	greatest = math.MaxInt
	size     = 32
	// probes is how many sectors are written to learn what a disk is armed with.
	probes = 10
)

// octets are a sector's, all unlike and none 0; those of another n (up to 254) are others at every place.
func octets(n int) []byte {
	b := make([]byte, size)
	for i := range b {
		b[i] = byte(1 + (37*n+7*i)%255)
	}
	return b
}

// plain is a disk by a reckoning of its own: one row of octets, written one by one.
type plain struct {
	row     []byte
	armed   bool
	left    int
	dead    bool
	written int
}

func newPlain(n int) *plain {
	return &plain{row: make([]byte, n*size)}
}

func (p *plain) has(i int) bool {
	return i >= 0 && i < len(p.row)/size
}

func (p *plain) write(i int, b []byte) bool {
	if p.dead || !p.has(i) || len(b) != size {
		return false
	}
	for at, o := range b {
		if p.armed && p.left == 0 {
			p.dead, p.armed = true, false
			return false
		}
		p.row[i*size+at] = o
		p.written++
		p.left--
	}
	return true
}

func (p *plain) arm(n int) {
	if !p.dead {
		p.armed, p.left = n >= 0, n
	}
}

func (p *plain) revive() {
	p.dead, p.armed = false, false
}

func (p *plain) clone() *plain {
	c := *p
	c.row = slices.Clone(p.row)
	return &c
}

// fuel is how many octets will still be written; -1, if more than probes would learn.
func (p *plain) fuel() int {
	if p.dead {
		return 0
	}
	if !p.armed || p.left >= probes*size {
		return -1
	}
	return p.left
}

// fuelOf is how many octets a clone of d still writes; -1, if that are all that it is given.
func fuelOf(d *disk.Disk) int {
	c := d.Clone()
	for range probes {
		if !c.Write(0, octets(254)) {
			return c.Written() - d.Written()
		}
	}
	return -1
}

// noPlaces are such i as no sector of a disk of n has; some are its own in fewer bits, or when octets are counted.
func noPlaces(n int) []int {
	return []int{
		-1, -2, -n, -n - 1, -size, n, n + 1, 2*n + 2, 256, 257, 1 << 16, -1 << 16, 1 << 32, 1<<32 + 1, -1 << 32, -1<<32 + 1,
		1 << 59, -1 << 59, 1<<59 + 1, 1<<59 - 1, least, least + 1, greatest - 1, greatest,
	}
}

// outside are the places of noPlaces that are none of a disk of n, whatever n.
func outside(n int) []int {
	return slices.DeleteFunc(noPlaces(n), func(i int) bool { return i >= 0 && i < n })
}

// checkTells holds all that d can be asked against what p tells.
func checkTells(t *testing.T, what string, d *disk.Disk, p *plain) {
	t.Helper()
	n := len(p.row) / size
	// Twice: asking changes nothing.
	for range 2 {
		if d.Len() != n || d.Dead() != p.dead || d.Written() != p.written {
			t.Errorf("P11.1: %s: Len %d, Dead %t, Written %d; want %d, %t, %d", what, d.Len(), d.Dead(), d.Written(), n, p.dead, p.written)
		}
		if all := d.All(); !bytes.Equal(all, p.row) {
			t.Errorf("P11.1: %s: All = %v; want %v", what, all, p.row)
		}
		for i := range n {
			checkRead(t, what, d, i, p.row[i*size:][:size], !p.dead)
		}
		checkRead(t, what, d, -1, nil, false)
		checkRead(t, what, d, n, nil, false)
		if n > 0 && fuelOf(d) != p.fuel() {
			t.Errorf("P11.1: %s: it still writes %d octets; want %d", what, fuelOf(d), p.fuel())
		}
	}
}

// checkRead holds sector i's octets against what they should be: nothing, if not ok.
func checkRead(t *testing.T, what string, d *disk.Disk, i int, want []byte, ok bool) {
	t.Helper()
	if !ok {
		want = nil
	}
	if b, got := d.Read(i); got != ok || !bytes.Equal(b, want) {
		t.Errorf("P11.1: %s: Read(%d) = %v, %t; want %v, %t", what, i, b, got, want, ok)
	}
}

// checkWrite writes to both, and holds them against each other.
func checkWrite(t *testing.T, what string, d *disk.Disk, p *plain, i int, b []byte, ok bool) {
	t.Helper()
	if got := d.Write(i, b); got != ok || p.write(i, b) != ok {
		t.Errorf("P11.1: %s: Write(%d, %v) = %t; want %t", what, i, b, got, ok)
	}
	checkTells(t, what, d, p)
}

// filled is a disk of n sectors, all written, neither armed nor dead.
func filled(n int) (*disk.Disk, *plain) {
	d, p := disk.New(n), newPlain(n)
	for i := range n {
		d.Write(i, octets(i))
		p.write(i, octets(i))
	}
	return d, p
}

// filledArmed is a filled disk that is armed with fuel.
func filledArmed(n int, fuel int) (*disk.Disk, *plain) {
	d, p := filled(n)
	d.Arm(fuel)
	p.arm(fuel)
	return d, p
}

// filledDead is a filled disk that died when so many octets of its sector 0 were written anew.
func filledDead(n int, front int) (*disk.Disk, *plain) {
	d, p := filledArmed(n, front)
	d.Write(0, octets(99))
	p.write(0, octets(99))
	return d, p
}

// kind is a disk of one kind, made anew each time.
type kind struct {
	name string
	make func(n int) (*disk.Disk, *plain)
}

// kinds are a disk that nothing happened to, and such as are armed, dead, or were.
func kinds() []kind {
	l := []kind{
		{"a new disk", func(n int) (*disk.Disk, *plain) { return disk.New(n), newPlain(n) }},
		{"a written disk", filled},
		{"a disk armed below 0", func(n int) (*disk.Disk, *plain) { return filledArmed(n, -1) }},
		{"a revived disk", func(n int) (*disk.Disk, *plain) {
			d, p := filledDead(n, 7)
			d.Revive()
			p.revive()
			return d, p
		}},
	}
	for _, fuel := range []int{0, 1, 31, 32, 33, 64, 5*size + 7, greatest} {
		l = append(l, kind{"a disk armed with " + strconv.Itoa(fuel), func(n int) (*disk.Disk, *plain) { return filledArmed(n, fuel) }})
	}
	for _, front := range []int{0, 1, 31} {
		l = append(l, kind{"a disk dead behind " + strconv.Itoa(front), func(n int) (*disk.Disk, *plain) { return filledDead(n, front) }})
	}
	return l
}

// TestNew has its answers written out.
func TestNew(t *testing.T) {
	cases := []struct{ n, want int }{
		{least, 0}, {least + 1, 0}, {-1 << 32, 0}, {-1<<32 + 5, 0}, {-256, 0}, {-2, 0}, {-1, 0}, {0, 0}, {1, 1}, {2, 2}, {3, 3}, {32, 32},
		{129, 129}, {254, 254}, {255, 255}, {256, 256}, {257, 256}, {258, 256}, {512, 256}, {1 << 16, 256}, {1 << 32, 256}, {1<<32 + 5, 256},
		{greatest - 1, 256}, {greatest, 256},
	}
	for _, c := range cases {
		d := disk.New(c.n)
		what := "New of " + strconv.Itoa(c.n)
		checkTells(t, what, d, newPlain(c.want))
		if d.Dead() || d.Written() != 0 || d.Len() != c.want || len(d.All()) != size*c.want {
			t.Errorf("P11.1: %s: Dead %t, Written %d, Len %d, and %d octets", what, d.Dead(), d.Written(), d.Len(), len(d.All()))
		}
		for i := range c.want {
			if b, ok := d.Read(i); !ok || !bytes.Equal(b, make([]byte, size)) {
				t.Errorf("P11.1: %s: Read(%d) = %v, %t; want octets 0", what, i, b, ok)
			}
		}
		for range 3 {
			for i := range c.want {
				if !d.Write(i, octets(1)) {
					t.Fatalf("P11.1: %s: a disk that is not armed does not write sector %d", what, i)
				}
			}
		}
	}
}

// TestDisksAreApart: what is done to one that New made is not done to another.
func TestDisksAreApart(t *testing.T) {
	d, e := disk.New(2), disk.New(2)
	d.Arm(40)
	d.Write(0, octets(1))
	d.Write(1, octets(2))
	checkTells(t, "another new disk", e, newPlain(2))
	checkTells(t, "a disk made later", disk.New(2), newPlain(2))
}

// TestExample is the chapter's: armed with 40.
func TestExample(t *testing.T) {
	d := disk.New(2)
	d.Arm(40)
	if !d.Write(0, octets(1)) || d.Dead() {
		t.Error("P11.1: armed with 40, the first write does not stand")
	}
	if b, ok := d.Read(0); !ok || !bytes.Equal(b, octets(1)) {
		t.Errorf("P11.1: armed with 40, the first sector is %v, %t", b, ok)
	}
	if d.Write(1, octets(2)) || !d.Dead() || d.Written() != 40 {
		t.Errorf("P11.1: armed with 40, behind two writes Dead is %t, Written %d", d.Dead(), d.Written())
	}
	want := slices.Concat(octets(1), octets(2)[:8], make([]byte, 24))
	if all := d.All(); !bytes.Equal(all, want) {
		t.Errorf("P11.1: armed with 40, All = %v; want %v", all, want)
	}
}

// TestPlaces has sectors that there are, and such as there are not, of disks of some lengths and all kinds.
func TestPlaces(t *testing.T) {
	for _, n := range []int{0, 1, 2, 3, 17, 256} {
		d, p := filled(n)
		for _, i := range outside(n) {
			checkRead(t, "no sector", d, i, nil, false)
			checkWrite(t, "no sector", d, p, i, octets(100), false)
		}
		for _, i := range slices.Compact([]int{0, n / 2, n - 1}) {
			if n > 0 {
				checkRead(t, "a sector", d, i, octets(i), true)
				checkWrite(t, "a sector", d, p, i, octets(101+i%100), true)
				checkRead(t, "a sector", d, i, octets(101+i%100), true)
			}
		}
	}
	for _, k := range kinds() {
		d, p := k.make(3)
		for _, i := range outside(3) {
			checkRead(t, k.name, d, i, nil, false)
			checkWrite(t, k.name, d, p, i, octets(100), false)
		}
	}
}

// TestLengths: what has not just a sector's octets is not written, and costs nothing.
func TestLengths(t *testing.T) {
	long := slices.Concat(octets(101), octets(102), octets(103), octets(104), octets(105), octets(106), octets(107), octets(108), octets(109))
	for _, k := range kinds() {
		d, p := k.make(3)
		for _, b := range [][]byte{nil, {}, long[:1], long[:31], long[:33], long[:63], long[:64], long[:65], long[:96], long[:256], long} {
			for _, i := range []int{0, 1, 2, -1, 3} {
				checkWrite(t, k.name, d, p, i, b, false)
			}
		}
	}
	d, p := filled(3)
	checkWrite(t, "just a sector's", d, p, 1, long[:size], true)
	checkWrite(t, "just a sector's, with others behind", d, p, 2, long[:size:size+1], true)
}

// TestWrites goes over the sectors in several orders, each twice.
func TestWrites(t *testing.T) {
	for _, order := range [][]int{{0, 1, 2, 3, 4}, {4, 3, 2, 1, 0}, {2, 0, 4, 1, 3}, {0, 0, 4, 4, 2}} {
		d, p := disk.New(5), newPlain(5)
		for at, i := range slices.Concat(order, order) {
			checkWrite(t, "a write", d, p, i, octets(at), true)
			checkRead(t, "a write", d, i, octets(at), true)
		}
		checkWrite(t, "octets 0", d, p, 2, make([]byte, size), true)
		checkWrite(t, "octets 255", d, p, 3, bytes.Repeat([]byte{255}, size), true)
		checkWrite(t, "what stood there", d, p, 3, bytes.Repeat([]byte{255}, size), true)
	}
}

// TestArm writes as long as the disk lives, to sectors that were written ahead; what stands is told by the numbers alone.
func TestArm(t *testing.T) {
	for _, fuel := range []int{0, 1, 2, 8, 30, 31, 32, 33, 63, 64, 65, 95, 96, 97, 5 * size, 5*size + 7} {
		d, _ := filledArmed(3, fuel)
		before := d.Written()
		want := d.All()
		for at := range fuel / size {
			if !d.Write(at%3, octets(50+at)) || d.Dead() {
				t.Fatalf("P11.1: armed with %d, write %d does not stand", fuel, at)
			}
			copy(want[at%3*size:], octets(50+at))
		}
		last := fuel / size
		if all := d.All(); !bytes.Equal(all, want) || d.Dead() || d.Written() != before+last*size {
			t.Errorf("P11.1: armed with %d, behind %d writes All = %v, Dead %t, Written %d", fuel, last, all, d.Dead(), d.Written())
		}
		checkRead(t, "a disk with little left", d, 2, want[2*size:], true)
		if d.Write(last%3, octets(50+last)) || !d.Dead() {
			t.Errorf("P11.1: armed with %d, write %d is told to stand, or the disk is not dead", fuel, last)
		}
		copy(want[last%3*size:], octets(50 + last)[:fuel%size])
		if all := d.All(); !bytes.Equal(all, want) || d.Written() != before+fuel {
			t.Errorf("P11.1: armed with %d, All = %v, Written %d; want %v, %d", fuel, all, d.Written()-before, want, fuel)
		}
		checkRead(t, "a dead disk", d, 1, nil, false)
		d.Revive()
		if fuelOf(d) != -1 || d.Dead() || !bytes.Equal(d.All(), want) || d.Written() != before+fuel {
			t.Errorf("P11.1: armed with %d, and revived, it still writes %d octets", fuel, fuelOf(d))
		}
	}
}

// TestArmWithMuch: the greatest number is not used up soon, and wraps to nothing below 0.
func TestArmWithMuch(t *testing.T) {
	for _, fuel := range []int{1 << 16, 1 << 32, 1<<32 + 1, 1<<62 + 1, greatest - 1, greatest} {
		d, p := filledArmed(2, fuel)
		for at := range 100 {
			checkWrite(t, "a disk armed with much", d, p, at%2, octets(at), true)
		}
	}
}

// TestArmBelowNought: a disk is not armed any more, or not now, either.
func TestArmBelowNought(t *testing.T) {
	for _, n := range []int{-1, -2, -31, -32, -33, -256, -1 << 32, -1<<32 + 1, least, least + 1} {
		for _, k := range kinds() {
			d, p := k.make(3)
			d.Arm(n)
			p.arm(n)
			checkTells(t, k.name+", armed below 0", d, p)
			for at := range 12 {
				checkWrite(t, k.name+", armed below 0", d, p, at%3, octets(50+at), !p.dead)
			}
		}
	}
}

// TestArmAgain: the last number counts alone.
func TestArmAgain(t *testing.T) {
	fuels := []int{0, 1, 31, 32, 33, 100, greatest, -1, least}
	for _, first := range fuels {
		for _, second := range fuels {
			for writes := range 3 {
				d, p := filledArmed(3, first)
				for range writes {
					checkWrite(t, "an armed disk", d, p, 1, octets(60), !p.armed || p.left >= size)
					if p.dead {
						d.Revive()
						p.revive()
					}
				}
				d.Arm(second)
				p.arm(second)
				checkTells(t, "a disk armed again", d, p)
			}
		}
	}
}

// TestDead: neither Arm nor Write, nor both, do anything of a dead one, and nothing of them is left when it is revived.
func TestDead(t *testing.T) {
	for _, front := range []int{0, 1, 16, 31} {
		d, p := filledDead(3, front)
		if !d.Dead() {
			t.Fatalf("P11.1: dead behind %d octets, Dead is false", front)
		}
		for _, n := range []int{0, 1, 31, 32, 33, greatest, -1, least} {
			d.Arm(n)
			checkTells(t, "a dead disk, armed", d, p)
			for i := range 3 {
				checkWrite(t, "a dead disk, armed", d, p, i, octets(70+i), false)
				checkRead(t, "a dead disk", d, i, nil, false)
			}
			c, q := d.Clone(), p.clone()
			c.Revive()
			q.revive()
			checkTells(t, "a dead disk, armed and revived", c, q)
			for i := range 12 {
				checkWrite(t, "a dead disk, armed and revived", c, q, i%3, octets(80+i), true)
			}
		}
	}
}

// TestRevive: neither dead nor armed, and what stood there and was counted stays.
func TestRevive(t *testing.T) {
	for _, n := range []int{0, 1, 3} {
		for _, k := range kinds() {
			d, p := k.make(n)
			all, written := d.All(), d.Written()
			for range 2 {
				d.Revive()
				p.revive()
				checkTells(t, k.name+", revived", d, p)
				if d.Dead() || !bytes.Equal(d.All(), all) || d.Written() != written {
					t.Errorf("P11.1: %s, revived: Dead %t, Written %d, All %v", k.name, d.Dead(), d.Written(), d.All())
				}
			}
			for i := range 4 * n {
				checkWrite(t, k.name+", revived", d, p, i%n, octets(90+i), true)
			}
		}
	}
}

// TestDiesAgain: a disk that was revived may be armed, and die, as often as one likes.
func TestDiesAgain(t *testing.T) {
	d, p := filled(2)
	for _, fuel := range []int{0, 31, 32, 1, 40, 0, 64, 5} {
		d.Arm(fuel)
		p.arm(fuel)
		for at := range fuel / size {
			checkWrite(t, "armed anew", d, p, 0, octets(fuel+at+1), true)
		}
		checkWrite(t, "armed anew", d, p, 1, octets(fuel+100), false)
		if !d.Dead() {
			t.Errorf("P11.1: armed anew with %d, it does not die", fuel)
		}
		d.Revive()
		p.revive()
		checkTells(t, "revived anew", d, p)
	}
}

// TestWritten has its answers written out.
func TestWritten(t *testing.T) {
	d := disk.New(2)
	check := func(what string, want int) {
		t.Helper()
		if n := d.Written(); n != want {
			t.Errorf("P11.1: %s: Written = %d; want %d", what, n, want)
		}
	}
	check("nothing yet", 0)
	d.Write(0, octets(1))
	check("a whole write", 32)
	d.Write(0, octets(1))
	check("the same once more", 64)
	d.Write(1, make([]byte, size))
	check("octets 0 upon octets 0", 96)
	d.Write(2, octets(2))
	d.Write(-1, octets(2))
	d.Write(0, nil)
	d.Write(0, octets(2)[:31])
	check("refused writes", 96)
	d.Arm(33)
	check("armed", 96)
	d.Write(1, octets(3))
	check("a whole write of an armed disk", 128)
	d.Write(0, octets(3))
	check("the front of a write", 129)
	d.Write(0, octets(4))
	check("refused writes of a dead disk", 129)
	d.Revive()
	check("revived", 129)
	d.Arm(0)
	d.Write(0, octets(4))
	check("no octet of a write", 129)
	d.Revive()
	d.Write(0, octets(4))
	check("a whole write of a revived disk", 161)
}

// TestAll has its answers written out.
func TestAll(t *testing.T) {
	check := func(what string, d *disk.Disk, want ...[]byte) {
		t.Helper()
		if all := d.All(); !bytes.Equal(all, slices.Concat(want...)) {
			t.Errorf("P11.1: %s: All = %v; want %v", what, all, want)
		}
	}
	none := make([]byte, size)
	check("no sectors", disk.New(0))
	check("one sector", disk.New(1), none)
	d := disk.New(3)
	check("three sectors", d, none, none, none)
	d.Write(2, octets(2))
	check("the last one written", d, none, none, octets(2))
	d.Write(0, octets(1))
	check("the first one written", d, octets(1), none, octets(2))
	d.Arm(5)
	d.Write(2, octets(3))
	check("dead", d, octets(1), none, octets(3)[:5], octets(2)[5:])
	d.Revive()
	check("revived", d, octets(1), none, octets(3)[:5], octets(2)[5:])
}

// deeds are what may be done to a disk, each to both ways of it.
func deeds() []func(d *disk.Disk, p *plain) bool {
	write := func(i int, b []byte) func(d *disk.Disk, p *plain) bool {
		return func(d *disk.Disk, p *plain) bool { return d.Write(i, b) == p.write(i, b) }
	}
	arm := func(n int) func(d *disk.Disk, p *plain) bool {
		return func(d *disk.Disk, p *plain) bool { d.Arm(n); p.arm(n); return true }
	}
	return []func(d *disk.Disk, p *plain) bool{
		write(0, octets(121)), write(1, octets(122)), write(0, octets(123)[:31]), write(2, octets(124)),
		arm(0), arm(31), arm(32), arm(40), arm(-1),
		func(d *disk.Disk, p *plain) bool { d.Revive(); p.revive(); return true },
	}
}

// TestClone: it tells alike, and what is done to either one changes nothing of the other.
func TestClone(t *testing.T) {
	for _, n := range []int{0, 1, 2, 3, 256} {
		for _, k := range kinds() {
			for _, deed := range deeds() {
				d, p := k.make(n)
				c, q := d.Clone(), p.clone()
				if c == nil || c == d {
					t.Fatalf("P11.1: %s of %d: Clone is nil, or the same one", k.name, n)
				}
				checkTells(t, k.name+", cloned", d, p)
				checkTells(t, k.name+"'s clone", c, q)
				for range 2 {
					if !deed(d, p) || !deed(d, p) {
						t.Errorf("P11.1: %s, cloned: what is done to it answers otherwise", k.name)
					}
					checkTells(t, k.name+", cloned and changed", d, p)
					checkTells(t, k.name+"'s clone", c, q)
					d, p, c, q = c, q, d, p
				}
			}
		}
	}
}

// TestCloneOfClone: each one is apart from all others.
func TestCloneOfClone(t *testing.T) {
	d, p := filledArmed(2, 70)
	l, m := []*disk.Disk{d}, []*plain{p}
	for i := range 6 {
		c, q := l[i].Clone(), m[i].clone()
		if c.Write(i%2, octets(130+i)) != q.write(i%2, octets(130+i)) {
			t.Errorf("P11.1: clone %d writes otherwise", i)
		}
		l, m = append(l, c), append(m, q)
	}
	for i := range l {
		checkTells(t, "clone "+strconv.Itoa(i), l[i], m[i])
	}
}

// TestNoDisk: of nil, and of one that New did not make, whatever is done to it ahead.
func TestNoDisk(t *testing.T) {
	for name, d := range map[string]*disk.Disk{"nil": nil, "one that New did not make": {}, "another one": new(disk.Disk)} {
		for _, n := range []int{0, 1, 32, 64, greatest, -1, least} {
			d.Arm(n)
			checkNoDisk(t, name, d)
			d.Revive()
			checkNoDisk(t, name, d)
		}
	}
}

// checkNoDisk holds that d is none, twice: asking changes nothing.
func checkNoDisk(t *testing.T, name string, d *disk.Disk) {
	t.Helper()
	for range 2 {
		if d.Len() != 0 || d.Dead() || d.Written() != 0 || len(d.All()) != 0 {
			t.Errorf("P11.1: %s: Len %d, Dead %t, Written %d, All %v", name, d.Len(), d.Dead(), d.Written(), d.All())
		}
		if c := d.Clone(); c != nil {
			t.Errorf("P11.1: %s: Clone is not nil", name)
		}
		for _, i := range append(outside(0), 0, 1, 255) {
			checkRead(t, name, d, i, nil, false)
			for _, b := range [][]byte{nil, {}, octets(1), octets(1)[:31]} {
				if d.Write(i, b) {
					t.Errorf("P11.1: %s: Write(%d, %v) = true", name, i, b)
				}
			}
		}
	}
}

// TestNoSectors: a disk of none is one all the same; it never dies, for nothing is written to it.
func TestNoSectors(t *testing.T) {
	for _, n := range []int{0, -1, least} {
		d := disk.New(n)
		for _, fuel := range []int{-1, 0, 31, 32, greatest} {
			d.Arm(fuel)
			if d.Write(0, octets(1)) || d.Write(-1, octets(1)) || d.Write(0, nil) || d.Dead() || d.Clone() == nil || d.Clone().Dead() {
				t.Errorf("P11.1: no sectors, armed with %d: a write stands, or it is dead, or has no clone", fuel)
			}
			checkTells(t, "no sectors", d, newPlain(0))
		}
	}
}

// checkFront holds that of a write to sector i just the front stands, and that all other octets stay.
func checkFront(t *testing.T, before []byte, after []byte, i int, b []byte, ok bool) {
	t.Helper()
	if len(after) != len(before) {
		t.Fatalf("P11.2: of %d octets %d are left", len(before), len(after))
	}
	for front := range size + 1 {
		want := slices.Clone(before)
		if i >= 0 && i < len(before)/size && len(b) == size {
			copy(want[i*size:][:size], b[:front])
		}
		if bytes.Equal(after, want) && (!ok || front == size) {
			return
		}
	}
	t.Errorf("P11.2: Write(%d, %v) = %t made %v of %v", i, b, ok, after, before)
}

// TestFront has each fuel that dies in one of the first writes, and each sector.
func TestFront(t *testing.T) {
	for fuel := range 3*size + 1 {
		for first := range 3 {
			d, _ := filledArmed(3, fuel)
			for at := range 5 {
				i, before := (first+at)%3, d.All()
				ok := d.Write(i, octets(140+at))
				if ok != (fuel >= (at+1)*size) {
					t.Errorf("P11.1: armed with %d, write %d is %t", fuel, at, ok)
				}
				checkFront(t, before, d.All(), i, octets(140+at), ok)
			}
		}
	}
}

// TestShortWays has all ways of some calls, one behind the other, each from a new disk on.
func TestShortWays(t *testing.T) {
	const calls = 4
	all := deeds()
	ways := 1
	for range calls {
		ways *= len(all)
	}
	for way := range ways {
		d, p := disk.New(2), newPlain(2)
		rest := way
		for range calls {
			if !all[rest%len(all)](d, p) {
				t.Errorf("P11.1: in way %d a write answers otherwise", way)
			}
			rest /= len(all)
		}
		checkTells(t, "way "+strconv.Itoa(way), d, p)
		if t.Failed() {
			return
		}
	}
}

// TestLongWays has calls by chance, with disks cloned between, and looks at all that is told behind each one.
func TestLongWays(t *testing.T) {
	random := rand.New(rand.NewSource(11))
	died := 0
	for way := range 200 {
		n := way % 6
		d, p := disk.New(n), newPlain(n)
		for range 100 {
			before, wasDead := d.All(), d.Dead()
			switch random.Intn(12) {
			case 0:
				fuel := random.Intn(5*size) - 20
				d.Arm(fuel)
				p.arm(fuel)
			case 1:
				d.Revive()
				p.revive()
			case 2:
				d, p = d.Clone(), p.clone()
			default:
				i, b := random.Intn(n+2)-1, octets(random.Intn(200))
				if random.Intn(6) == 0 {
					b = append(b, b...)[:random.Intn(2*size)]
				}
				ok := d.Write(i, b)
				if ok != p.write(i, b) {
					t.Fatalf("P11.1: way %d: Write(%d, %v) = %t", way, i, b, ok)
				}
				checkFront(t, before, d.All(), i, b, ok)
			}
			if d.Dead() && !wasDead {
				died++
			}
			checkTells(t, "way "+strconv.Itoa(way), d, p)
		}
		if t.Failed() {
			return
		}
	}
	if died < 100 {
		t.Errorf("just %d disks died", died)
	}
}

// withRoom is b, with room behind it that is filled with a mark.
func withRoom(b []byte) []byte {
	room := append(slices.Clone(b), bytes.Repeat([]byte{0x5a}, 300)...)
	return room[:len(b):len(room)]
}

// isWithRoom tells whether b is as withRoom made it of want.
func isWithRoom(b []byte, want []byte) bool {
	return bytes.Equal(b, want) && bytes.Count(b[len(b):cap(b)], []byte{0x5a}) == cap(b)-len(b)
}

// blot writes all over b and over the room behind it, by appending and by hand.
func blot(b []byte) {
	copy(b[:cap(b)], append(b, bytes.Repeat([]byte{0xee}, 300)...))
	for i := range b[:cap(b)] {
		b[:cap(b)][i] = 0xee
	}
}

// TestAnswersAreTheirOwn: what is written to answers of Read and All, or appended, changes no disk and no other answer.
func TestAnswersAreTheirOwn(t *testing.T) {
	for _, n := range []int{1, 2, 3, 256} {
		for _, k := range kinds() {
			d, p := k.make(n)
			c := d.Clone()
			var answers, wants [][]byte
			keep := func(b []byte) {
				answers, wants = append(answers, b), append(wants, slices.Clone(b))
			}
			for _, one := range []*disk.Disk{d, d, c} {
				keep(one.All())
				for i := range min(n, 3) {
					b, _ := one.Read(i)
					keep(b)
				}
			}
			for i, b := range answers {
				blot(b)
				for j := i + 1; j < len(answers); j++ {
					if !bytes.Equal(answers[j], wants[j]) {
						t.Fatalf("P2: %s: answer %d hangs on what became of answer %d", k.name, j, i)
					}
				}
			}
			checkTells(t, k.name+", answers of which were written to", d, p)
			checkTells(t, k.name+"'s clone, answers of which were written to", c, p)
		}
	}
}

// TestAnswersStay: what becomes of a disk behind an answer changes nothing of it.
func TestAnswersStay(t *testing.T) {
	d, p := filled(3)
	all := d.All()
	b, _ := d.Read(1)
	checkWrite(t, "a write", d, p, 1, octets(150), true)
	d.Arm(9)
	d.Write(2, octets(151))
	want := slices.Concat(octets(0), octets(1), octets(2))
	if !bytes.Equal(all, want) || !bytes.Equal(b, octets(1)) {
		t.Errorf("P2: answers of All and Read became %v and %v", all, b)
	}
}

// TestWriteKeepsNothing: octets that are handed in are not changed, and what becomes of them later changes no disk.
func TestWriteKeepsNothing(t *testing.T) {
	long := slices.Concat(octets(160), octets(161))
	for _, n := range []int{0, 1, 31, 32, 33, 64} {
		for _, i := range []int{0, 1, 2, -1, 3} {
			for _, k := range kinds() {
				d, p := k.make(3)
				b := withRoom(long[:n])
				ok := d.Write(i, b)
				if p.write(i, long[:n]) != ok {
					t.Errorf("P11.1: %s: Write(%d, %v) = %t", k.name, i, b, ok)
				}
				if !isWithRoom(b, long[:n]) {
					t.Fatalf("P2: %s: Write(%d) changed the %d octets that it was handed, or what lies behind them", k.name, i, n)
				}
				c := d.Clone()
				blot(b)
				checkTells(t, k.name+", what was handed to Write being written to", d, p)
				checkTells(t, k.name+"'s clone, what was handed to Write being written to", c, p)
			}
			for _, d := range []*disk.Disk{nil, {}} {
				b := withRoom(long[:n])
				if d.Write(i, b); !isWithRoom(b, long[:n]) {
					t.Errorf("P2: Write of no disk changed the %d octets that it was handed", n)
				}
			}
		}
	}
}

// TestOneSliceManyTimes: octets that are written to several sectors and disks, and then anew with others, stay apart.
func TestOneSliceManyTimes(t *testing.T) {
	d, p := disk.New(3), newPlain(3)
	e, q := disk.New(3), newPlain(3)
	b := make([]byte, size)
	for at := range 9 {
		copy(b, octets(170+at))
		checkWrite(t, "one slice", d, p, at%3, b, true)
		checkWrite(t, "one slice", e, q, 2-at%3, b, true)
	}
	// What a disk answered is written to it again, one sector further.
	all := d.All()
	checkWrite(t, "a disk's own answer", d, p, 0, all[size:][:size], true)
	checkWrite(t, "a disk's own answer", d, p, 1, all[2*size:], true)
	checkTells(t, "another disk", e, q)
}
