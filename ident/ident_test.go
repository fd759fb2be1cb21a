package ident_test

import (
	"fmt"
	"math"
	"math/rand"
	"strings"
	"testing"

	"countermand/api"
	"countermand/ident"
)

const (
	least    = math.MinInt
	greatest = math.MaxInt
)

func id(replica int, seq int) api.Id {
	return api.Id{Replica: replica, Seq: seq}
}

func key(replica int, seq int, ord int, undo bool) api.Key {
	return api.Key{Id: id(replica, seq), Ord: ord, Undo: undo}
}

// replicas are Replicas, and whether an Id with one may be.
func replicas() map[int]bool {
	return map[int]bool{
		least: false, least + 1: false, -1 << 32: false, -256: false, -4: false, -1: false,
		0: true, 1: true, 2: true, 3: true,
		4: false, 5: false, 9: false, 255: false, 256: false, 1 << 16: false, 1 << 32: false, 1<<32 + 1: false, greatest - 1: false, greatest: false,
	}
}

// seqs are Seqs, and whether an Id with one may be.
func seqs() map[int]bool {
	return map[int]bool{
		least: false, least + 1: false, -1<<32 + 1: false, -1 << 16: false, -1: false, 0: false,
		1: true, 2: true, 9: true, 10: true, 255: true, 256: true, 1<<15 - 1: true, 1 << 15: true, 1<<16 - 2: true, 1<<16 - 1: true,
		1 << 16: false, 1<<16 + 1: false, 1 << 32: false, 1<<32 + 1: false, greatest - 1: false, greatest: false,
	}
}

// ords are Ords, and whether a key with one may be.
func ords() map[int]bool {
	return map[int]bool{
		least: false, least + 1: false, -1<<32 + 1: false, -255: false, -1: false, 0: false,
		1: true, 2: true, 127: true, 128: true, 254: true, 255: true,
		256: false, 257: false, 1 << 16: false, 1<<32 + 1: false, greatest - 1: false, greatest: false,
	}
}

func TestMay(t *testing.T) {
	for replica, may := range replicas() {
		for seq, may2 := range seqs() {
			if got := ident.May(id(replica, seq)); got != (may && may2) {
				t.Errorf("P6.1: May(%d, %d) = %t", replica, seq, got)
			}
		}
	}
	if ident.May(api.Id{}) {
		t.Error("P6.1: May of zero is true")
	}
}

func TestMayKey(t *testing.T) {
	for replica, may := range replicas() {
		for seq, may2 := range seqs() {
			for ord, may3 := range ords() {
				for _, undo := range []bool{false, true} {
					if got := ident.MayKey(key(replica, seq, ord, undo)); got != (may && may2 && may3) {
						t.Errorf("P6.1: MayKey(%d, %d, %d, %t) = %t", replica, seq, ord, undo, got)
					}
				}
			}
		}
	}
	if ident.MayKey(api.Key{}) {
		t.Error("P6.1: MayKey of zero is true")
	}
}

// inOrder are Ids as they lie.
func inOrder() []api.Id {
	var l []api.Id
	for _, seq := range []int{least, least + 1, -1 << 32, -1, 0, 1, 2, 9, 10, 255, 256, 1<<16 - 1, 1 << 16, 1 << 32, greatest - 1, greatest} {
		for _, replica := range []int{least, -1, 0, 1, 2, 3, 4, 1 << 32, greatest} {
			l = append(l, id(replica, seq))
		}
	}
	return l
}

func TestLess(t *testing.T) {
	l := inOrder()
	for i, a := range l {
		for j, b := range l {
			if got := ident.Less(a, b); got != (i < j) {
				t.Errorf("P6.1: Less(%v, %v) = %t", a, b, got)
			}
		}
	}
}

func TestExample(t *testing.T) {
	if !ident.Less(id(2, 1), id(0, 2)) || ident.Less(id(0, 2), id(2, 1)) {
		t.Error("example 1: 2.1 does not lie ahead of 0.2")
	}
}

// keysInOrder are keys as they lie.
func keysInOrder() []api.Key {
	var l []api.Key
	for i, a := range inOrder() {
		if i%5 != 0 && i%9 != 3 {
			continue
		}
		for _, ord := range []int{least, -1, 0, 1, 2, 255, 256, greatest} {
			l = append(l, api.Key{Id: a, Ord: ord}, api.Key{Id: a, Ord: ord, Undo: true})
		}
	}
	return l
}

func TestLessKey(t *testing.T) {
	l := keysInOrder()
	for i, a := range l {
		for j, b := range l {
			if got := ident.LessKey(a, b); got != (i < j) {
				t.Errorf("P6.1: LessKey(%v, %v) = %t", a, b, got)
			}
		}
	}
}

// TestOneIsLess: of two unlike ones just one, of two alike none.
func TestOneIsLess(t *testing.T) {
	r := rand.New(rand.NewSource(6))
	some := func() int { return r.Intn(3) - 1 }
	for range 20000 {
		a, b := id(some(), some()), id(some(), some())
		if one, two := ident.Less(a, b), ident.Less(b, a); (one != two) != (a != b) || one && two {
			t.Fatalf("P6.2: Less of %v and %v is %t, and %t the other way round", a, b, one, two)
		}
		k, m := api.Key{Id: a, Ord: some(), Undo: some() > 0}, api.Key{Id: b, Ord: some(), Undo: some() > 0}
		if one, two := ident.LessKey(k, m), ident.LessKey(m, k); (one != two) != (k != m) || one && two {
			t.Fatalf("P6.2: LessKey of %v and %v is %t, and %t the other way round", k, m, one, two)
		}
	}
}

// TestOneFieldApart: each field counts alone.
func TestOneFieldApart(t *testing.T) {
	k := key(1, 7, 5, false)
	for _, m := range []api.Key{key(2, 7, 5, false), key(1, 8, 5, false), key(1, 7, 6, false), key(1, 7, 5, true)} {
		if !ident.LessKey(k, m) || ident.LessKey(m, k) {
			t.Errorf("P6.1: LessKey: %v does not lie ahead of %v", k, m)
		}
		one := m.Id != k.Id
		if ident.Less(k.Id, m.Id) != one || ident.Less(m.Id, k.Id) {
			t.Errorf("P6.1: Less of %v and %v", k.Id, m.Id)
		}
	}
	if ident.LessKey(k, k) || ident.Less(k.Id, k.Id) || ident.LessKey(key(1, 7, 5, true), key(1, 7, 5, true)) {
		t.Error("P6.1: one lies ahead of itself")
	}
}

func TestText(t *testing.T) {
	for _, x := range []struct {
		a    api.Id
		want string
	}{
		{id(0, 1), "0.1"},
		{id(2, 1), "2.1"},
		{id(3, 65535), "3.65535"},
		{id(3, 10), "3.10"},
		{id(0, 100), "0.100"},
		{id(0, 0), "0.0"},
		{id(-1, -1), "-1.-1"},
		{id(4, 65536), "4.65536"},
		{id(10, -20), "10.-20"},
		{id(least, greatest), "-9223372036854775808.9223372036854775807"},
		{id(greatest, least), "9223372036854775807.-9223372036854775808"},
	} {
		if got := ident.Text(x.a); got != x.want {
			t.Errorf("P6.1: Text(%v) = %q; want %q", x.a, got, x.want)
		}
	}
	for _, a := range inOrder() {
		if got, want := ident.Text(a), fmt.Sprintf("%d.%d", a.Replica, a.Seq); got != want {
			t.Errorf("P6.1: Text(%v) = %q; want %q", a, got, want)
		}
	}
}

func TestTextKey(t *testing.T) {
	for _, x := range []struct {
		k    api.Key
		want string
	}{
		{key(0, 1, 1, false), "0.1/1"},
		{key(0, 1, 1, true), "0.1/1-"},
		{key(3, 65535, 255, true), "3.65535/255-"},
		{key(3, 65535, 255, false), "3.65535/255"},
		{key(0, 0, 0, false), "0.0/0"},
		{key(0, 0, 0, true), "0.0/0-"},
		{key(-1, -2, -3, false), "-1.-2/-3"},
		{key(-1, -2, -3, true), "-1.-2/-3-"},
		{key(4, 65536, 256, false), "4.65536/256"},
		{key(1, 2, greatest, false), "1.2/9223372036854775807"},
		{key(1, 2, least, true), "1.2/-9223372036854775808-"},
	} {
		if got := ident.TextKey(x.k); got != x.want {
			t.Errorf("P6.1: TextKey(%v) = %q; want %q", x.k, got, x.want)
		}
	}
	for _, k := range keysInOrder() {
		want := fmt.Sprintf("%d.%d/%d", k.Id.Replica, k.Id.Seq, k.Ord)
		if k.Undo {
			want += "-"
		}
		if got := ident.TextKey(k); got != want {
			t.Errorf("P6.1: TextKey(%v) = %q; want %q", k, got, want)
		}
	}
}

// TestTextsComeBack: of each Id that may be.
func TestTextsComeBack(t *testing.T) {
	for replica := range api.MaxReplicas {
		for seq := 1; seq < 1<<16; seq++ {
			a := id(replica, seq)
			got, ok := ident.Parse(ident.Text(a))
			if got != a || !ok {
				t.Fatalf("P6.2: Parse(Text(%v)) = %v, %t", a, got, ok)
			}
		}
	}
}

func TestParse(t *testing.T) {
	for _, x := range []struct {
		s    string
		want api.Id
	}{
		{"0.1", id(0, 1)},
		{"3.1", id(3, 1)},
		{"2.1", id(2, 1)},
		{"1.10", id(1, 10)},
		{"1.100", id(1, 100)},
		{"0.65534", id(0, 65534)},
		{"3.65535", id(3, 65535)},
	} {
		if got, ok := ident.Parse(x.s); got != x.want || !ok {
			t.Errorf("P6.1: Parse(%q) = %v, %t; want %v", x.s, got, ok, x.want)
		}
	}
}

// noTexts are texts of no Id that may be.
func noTexts() []string {
	l := []string{
		"", ".", "..", "1", "12", "1.", ".1", "0.", ".0", "1..1", "1.1.", ".1.1", "1.1.1", "0.1.2", "1.1/1", "1.1/1-", "1/1", "1,1", "1:1",
		// Noughts ahead.
		"00.1", "01.1", "0.01", "0.001", "1.0001", "3.065535", "00.01", "-0.1", "1.-0",
		// Signs, blanks, and others.
		"+1.1", "1.+1", "-1.1", "1.-1", "- 1.1", " 1.1", "1.1 ", "1 .1", "1. 1", " 1. 1 ", "\t1.1", "1.1\n", "\r1.1", "1.1\x00", "\x001.1", "1\x00.1", "1.1\xff", "\xff.\xff", "1.1-", "1.1+", "1_0.1", "1.1_0", "1.1_000", "1'0.1",
		"a.1", "1.a", "a.b", "x", "1.1a", "a1.1", "1a.1", "1.0x1", "0x1.1", "1.1e1", "1.1e0", "0b1.1", "1.0b1", "1.0o1", "NaN.1", "1.Inf", "nil", "true.1", "one.two", "1.1.", "1\u00b7 1", "\uff11.\uff11", "\u0661.\u0661", "1\u30021", "1.1\u00a0", "\u00a01.1", "\ufeff1.1", "1.\u00b2",
		// Beyond the bounds.
		"4.1", "5.1", "10.1", "9.1", "255.1", "256.1", "0.0", "3.0", "0.65536", "0.65537", "3.65536", "4.65536", "1.131073", "0.99999", "0.100000", "4.0",
		// What goes round in 16, 32, or 64 bits.
		"65536.1", "4294967296.1", "4294967297.1", "18446744073709551616.1", "18446744073709551617.1", "0.4294967297", "0.18446744073709551617", "1.9223372036854775807", "1.9223372036854775808", "9223372036854775807.1", "9223372036854775808.1", "-9223372036854775808.1", "1.-9223372036854775809",
		"1." + strings.Repeat("9", 1000), strings.Repeat("9", 1000) + ".1", "1." + strings.Repeat("0", 1000) + "1", strings.Repeat("0", 1000) + ".1", strings.Repeat("1", 100000) + "." + strings.Repeat("1", 100000),
		strings.Repeat(".", 1000), strings.Repeat("1.", 1000), strings.Repeat("1", 1000), strings.Repeat("\x00", 1000),
	}
	return l
}

func TestParseOfNone(t *testing.T) {
	for _, s := range noTexts() {
		if got, ok := ident.Parse(s); got != (api.Id{}) || ok {
			t.Errorf("P6.1: Parse(%.40q) = %v, %t; want zero and false", s, got, ok)
		}
	}
}

// TestParseOfOneOctetMore: wherever an octet is put in, cut out or changed, the text is that of what Parse answers, or of nothing.
func TestParseOfOneOctetMore(t *testing.T) {
	look := func(s string) {
		t.Helper()
		got, ok := ident.Parse(s)
		if ok && (!ident.May(got) || fmt.Sprintf("%d.%d", got.Replica, got.Seq) != s) || !ok && got != (api.Id{}) {
			t.Errorf("P6.1: Parse(%q) = %v, %t", s, got, ok)
		}
		may := false
		for replica := range api.MaxReplicas {
			ahead := fmt.Sprintf("%d.", replica)
			rest, is := strings.CutPrefix(s, ahead)
			var n int
			if is && len(rest) > 0 && len(rest) < 6 && strings.Trim(rest, "0123456789") == "" && rest[0] != '0' {
				fmt.Sscanf(rest, "%d", &n)
				may = n < 1<<16
			}
		}
		if ok != may {
			t.Errorf("P6.1: Parse(%q) is %t; want %t", s, ok, may)
		}
	}
	for _, s := range []string{"0.1", "3.65535", "2.10", "1.9", "0.6553", "0.65529"} {
		for i := range len(s) + 1 {
			if i < len(s) {
				look(s[:i] + s[i+1:])
			}
			for o := range 256 {
				look(s[:i] + string([]byte{byte(o)}) + s[i:])
				if i < len(s) {
					look(s[:i] + string([]byte{byte(o)}) + s[i+1:])
				}
			}
		}
	}
}

func TestOther(t *testing.T) {
	for _, x := range []struct{ k, want api.Key }{
		{key(1, 7, 5, false), key(1, 7, 5, true)},
		{key(1, 7, 5, true), key(1, 7, 5, false)},
		{key(3, 65535, 255, false), key(3, 65535, 255, true)},
		{key(0, 0, 0, false), key(0, 0, 0, true)},
		{key(-1, least, greatest, true), key(-1, least, greatest, false)},
	} {
		if got := ident.Other(x.k); got != x.want {
			t.Errorf("P6.1: Other(%v) = %v; want %v", x.k, got, x.want)
		}
	}
	for _, k := range keysInOrder() {
		if got := ident.Other(ident.Other(k)); got != k {
			t.Errorf("P6.1: Other twice of %v = %v", k, got)
		}
		if k.Undo == ident.LessKey(k, ident.Other(k)) {
			t.Errorf("P6.1: what undoes does not lie behind: %v", k)
		}
	}
}
