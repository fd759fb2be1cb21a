package vector_test

import (
	"math"
	"math/rand"
	"slices"
	"testing"

	"countermand/api"
	"countermand/vector"
)

const (
	least    = math.MinInt
	greatest = math.MaxInt
	lastSeq  = 65535
)

// by is a change with that Id, and with a mark by which those of one Id are told apart.
func by(replica int, seq int, mark int64) api.Change {
	return api.Change{Id: api.Id{Replica: replica, Seq: seq}, N: mark}
}

// seqs are numbers at all edges, as they lie.
func seqs() []int {
	return []int{
		least, least + 1, -1 << 32, -lastSeq - 1, -2, -1, 0, 1, 2, 3, 255, 256,
		lastSeq - 1, lastSeq, lastSeq + 1, lastSeq + 2, 1 << 31, 1 << 32, 1<<32 + 1, greatest - 1, greatest,
	}
}

// noReplicas are numbers that are no replica's, such among them as have a replica's lower bits.
func noReplicas() []int {
	return []int{least, least + 1, -1 << 32, -5, -4, -3, -2, -1, 4, 5, 7, 8, 9, 255, 256, 257, 65536, 1 << 32, 1<<32 + 1, 1<<32 + 3, greatest - 1, greatest}
}

// filled is a vector with n in each place.
func filled(n int) [4]int {
	return [4]int{n, n, n, n}
}

// withOne is v with n at r alone.
func withOne(v [4]int, r int, n int) [4]int {
	v[r] = n
	return v
}

// someVectors are vectors of all kinds: like ones, such as differ in one place, and others.
func someVectors() [][4]int {
	all := [][4]int{{1, 2, 3, 4}, {4, 3, 2, 1}, {0, 9, 0, 9}, {-7, 7, least, greatest}}
	for _, n := range seqs() {
		all = append(all, filled(n))
	}
	for r := range 4 {
		for _, n := range []int{least, -1, 0, 4, 5, 6, lastSeq, lastSeq + 1, greatest} {
			all = append(all, withOne(filled(5), r, n))
		}
	}
	random := rand.New(rand.NewSource(8))
	few := []int{least, -1, 0, 1, 2, greatest}
	for range 60 {
		var v [4]int
		for r := range v {
			v[r] = few[random.Intn(len(few))]
		}
		all = append(all, v)
	}
	return all
}

// someLists are lists of all kinds: short ones, such as have one Id twice, and others, with Ids that may not be among them.
func someLists() [][]api.Change {
	all := [][]api.Change{
		nil,
		{},
		{by(0, 1, 1)},
		{by(3, lastSeq, 1)},
		{by(4, 1, 1)},
		{by(-1, 1, 1)},
		{by(2, 0, 1)},
		{by(2, -1, 1)},
		{by(1, 3, 1), by(1, 1, 2), by(1, 2, 3), by(1, 3, 4), by(1, 1, 5)},
		{by(3, 1, 1), by(2, 2, 2), by(1, 3, 3), by(0, 4, 4), by(0, 5, 5), by(1, 4, 6), by(2, 3, 7), by(3, 2, 8)},
		{by(0, least, 1), by(1, greatest, 2), by(least, 9, 3), by(greatest, 9, 4)},
	}
	random := rand.New(rand.NewSource(88))
	replicas := []int{-1, 0, 0, 1, 1, 2, 2, 3, 3, 4}
	few := []int{least, -1, 0, 1, 2, 3, lastSeq, greatest}
	for n := range 60 {
		var l []api.Change
		for i := range n {
			l = append(l, by(replicas[random.Intn(len(replicas))], few[random.Intn(1+n%len(few))], int64(i)))
		}
		all = append(all, l)
	}
	return all
}

// greatestSeq looks all of l through for one replica alone.
func greatestSeq(l []api.Change, r int) int {
	found := 0
	for i := len(l) - 1; i >= 0; i-- {
		if l[i].Id.Replica == r && l[i].Id.Seq > found {
			found = l[i].Id.Seq
		}
	}
	return found
}

// known tells by a switch, place by place, whether v has a.
func known(v [4]int, a api.Id) bool {
	if a.Seq < 1 {
		return false
	}
	switch a.Replica {
	case 0:
		return !(v[0] < a.Seq)
	case 1:
		return !(v[1] < a.Seq)
	case 2:
		return !(v[2] < a.Seq)
	case 3:
		return !(v[3] < a.Seq)
	}
	return false
}

// lackingAnew is l, less what v has.
func lackingAnew(v [4]int, l []api.Change) []api.Change {
	return slices.DeleteFunc(slices.Clone(l), func(c api.Change) bool { return known(v, c.Id) })
}

// coversAnew tells it place by place.
func coversAnew(a [4]int, b [4]int) bool {
	return !(a[0] < b[0]) && !(a[1] < b[1]) && !(a[2] < b[2]) && !(a[3] < b[3])
}

func TestExample(t *testing.T) {
	if got := vector.Of(); got != [4]int{0, 0, 0, 0} {
		t.Errorf("example 1: Of() = %v", got)
	}
}

func TestOf(t *testing.T) {
	for _, l := range someLists() {
		var want [4]int
		for r := range want {
			want[r] = greatestSeq(l, r)
		}
		if got := vector.Of(l...); got != want {
			t.Errorf("P8.1: Of(%v) = %v; want %v", l, got, want)
		}
	}
}

// TestOfWritten has its answers written out.
func TestOfWritten(t *testing.T) {
	cases := []struct {
		name string
		l    []api.Change
		want [4]int
	}{
		{"nil", nil, [4]int{}},
		{"nothing", []api.Change{}, [4]int{}},
		{"one of the first", []api.Change{by(0, 7, 0)}, [4]int{7, 0, 0, 0}},
		{"one of the second", []api.Change{by(1, 7, 0)}, [4]int{0, 7, 0, 0}},
		{"one of the third", []api.Change{by(2, 7, 0)}, [4]int{0, 0, 7, 0}},
		{"one of the last", []api.Change{by(3, 7, 0)}, [4]int{0, 0, 0, 7}},
		{"several that rise", []api.Change{by(1, 1, 0), by(1, 2, 0), by(1, 5, 0)}, [4]int{0, 5, 0, 0}},
		{"several that fall", []api.Change{by(1, 5, 0), by(1, 2, 0), by(1, 1, 0)}, [4]int{0, 5, 0, 0}},
		{"several with the greatest in between", []api.Change{by(1, 2, 0), by(1, 5, 0), by(1, 1, 0)}, [4]int{0, 5, 0, 0}},
		{"one twice", []api.Change{by(2, 5, 1), by(2, 5, 2)}, [4]int{0, 0, 5, 0}},
		{"of all", []api.Change{by(3, 1, 0), by(0, 4, 0), by(2, 2, 0), by(1, 3, 0)}, [4]int{4, 3, 2, 1}},
		{"of none", []api.Change{by(4, 9, 0), by(-1, 9, 0), by(least, 9, 0), by(greatest, 9, 0)}, [4]int{}},
		{"of none among some", []api.Change{by(4, 9, 0), by(3, 2, 0), by(-1, 9, 0), by(0, 1, 0), by(5, 9, 0)}, [4]int{1, 0, 0, 2}},
		{"below 1 alone", []api.Change{by(0, 0, 0), by(1, -1, 0), by(2, least, 0)}, [4]int{}},
		{"below 1 among others", []api.Change{by(1, -9, 0), by(1, 3, 0), by(1, 0, 0), by(2, least, 0), by(2, 1, 0)}, [4]int{0, 3, 1, 0}},
		{"above all that may be", []api.Change{by(0, lastSeq, 0), by(1, lastSeq+1, 0), by(2, greatest, 0), by(3, greatest-1, 0)}, [4]int{lastSeq, lastSeq + 1, greatest, greatest - 1}},
	}
	for _, c := range cases {
		if got := vector.Of(c.l...); got != c.want {
			t.Errorf("P8.1: Of %s = %v; want %v", c.name, got, c.want)
		}
	}
}

// TestOfOne has one change of each replica, and of each number that is none's, with each Seq.
func TestOfOne(t *testing.T) {
	for _, seq := range seqs() {
		for r := range 4 {
			if got, want := vector.Of(by(r, seq, 0)), withOne([4]int{}, r, max(seq, 0)); got != want {
				t.Errorf("P8.1: Of %d.%d = %v; want %v", r, seq, got, want)
			}
		}
		for _, r := range noReplicas() {
			if got := vector.Of(by(r, seq, 0)); got != [4]int{} {
				t.Errorf("P8.1: Of %d.%d = %v, though %d is no replica", r, seq, got, r)
			}
		}
	}
}

// TestOfOtherFields has numbers in all fields where one might look for an Id's.
func TestOfOtherFields(t *testing.T) {
	c := api.Change{Id: api.Id{Replica: 2, Seq: 3}, Time: 9, Kind: 1, A: 1, B: 3, N: 9, Ref: api.Id{Replica: 1, Seq: 9}}
	if got := vector.Of(c); got != [4]int{0, 0, 3, 0} {
		t.Errorf("P8.1: Of(%v) = %v", c, got)
	}
}

func TestJoin(t *testing.T) {
	for _, a := range someVectors() {
		for _, b := range someVectors() {
			got := vector.Join(a, b)
			for r := range got {
				if got[r] != a[r] && got[r] != b[r] || got[r] < a[r] || got[r] < b[r] {
					t.Errorf("P8.1: Join(%v, %v) = %v", a, b, got)
				}
			}
		}
	}
}

// TestJoinWritten has its answers written out.
func TestJoinWritten(t *testing.T) {
	cases := []struct{ a, b, want [4]int }{
		{[4]int{}, [4]int{}, [4]int{}},
		{[4]int{1, 2, 3, 4}, [4]int{1, 2, 3, 4}, [4]int{1, 2, 3, 4}},
		{[4]int{1, 5, 3, 8}, [4]int{2, 4, 6, 7}, [4]int{2, 5, 6, 8}},
		{[4]int{2, 4, 6, 7}, [4]int{1, 5, 3, 8}, [4]int{2, 5, 6, 8}},
		{[4]int{-1, -2, -3, -4}, [4]int{-4, -3, -2, -1}, [4]int{-1, -2, -2, -1}},
		{[4]int{least, greatest, least, 0}, [4]int{greatest, least, least, -1}, [4]int{greatest, greatest, least, 0}},
		{[4]int{lastSeq, 0, lastSeq + 1, 1}, [4]int{lastSeq + 1, 1, lastSeq, 0}, [4]int{lastSeq + 1, 1, lastSeq + 1, 1}},
	}
	for _, c := range cases {
		if got := vector.Join(c.a, c.b); got != c.want {
			t.Errorf("P8.1: Join(%v, %v) = %v; want %v", c.a, c.b, got, c.want)
		}
	}
}

// TestJoinInOnePlace has vectors that differ in one place alone.
func TestJoinInOnePlace(t *testing.T) {
	for r := range 4 {
		for i, m := range seqs() {
			for j, n := range seqs() {
				a, b := withOne([4]int{9, 9, 9, 9}, r, m), withOne([4]int{9, 9, 9, 9}, r, n)
				want := a
				if j > i {
					want = b
				}
				if got := vector.Join(a, b); got != want {
					t.Errorf("P8.1: Join(%v, %v) = %v; want %v", a, b, got, want)
				}
			}
		}
	}
}

func TestCovers(t *testing.T) {
	for _, a := range someVectors() {
		if !vector.Covers(a, a) {
			t.Errorf("P8.1: %v does not cover itself", a)
		}
		for _, b := range someVectors() {
			if got, want := vector.Covers(a, b), coversAnew(a, b); got != want {
				t.Errorf("P8.1: Covers(%v, %v) = %t", a, b, got)
			}
		}
	}
}

// TestCoversWritten has its answers written out.
func TestCoversWritten(t *testing.T) {
	cases := []struct {
		a, b [4]int
		want bool
	}{
		{[4]int{}, [4]int{}, true},
		{[4]int{2, 2, 2, 2}, [4]int{2, 2, 2, 2}, true},
		{[4]int{2, 2, 2, 2}, [4]int{1, 1, 1, 1}, true},
		{[4]int{1, 1, 1, 1}, [4]int{2, 2, 2, 2}, false},
		{[4]int{1, 2, 2, 2}, [4]int{2, 2, 2, 2}, false},
		{[4]int{2, 1, 2, 2}, [4]int{2, 2, 2, 2}, false},
		{[4]int{2, 2, 1, 2}, [4]int{2, 2, 2, 2}, false},
		{[4]int{2, 2, 2, 1}, [4]int{2, 2, 2, 2}, false},
		{[4]int{1, 9, 9, 9}, [4]int{2, 2, 2, 2}, false},
		{[4]int{9, 1, 9, 9}, [4]int{2, 2, 2, 2}, false},
		{[4]int{9, 9, 1, 9}, [4]int{2, 2, 2, 2}, false},
		{[4]int{9, 9, 9, 1}, [4]int{2, 2, 2, 2}, false},
		{[4]int{3, 2, 2, 2}, [4]int{2, 2, 2, 2}, true},
		{[4]int{2, 2, 2, 3}, [4]int{2, 2, 2, 2}, true},
		{[4]int{-1, 0, 0, 0}, [4]int{}, false},
		{[4]int{}, [4]int{-1, -1, -1, -1}, true},
		{[4]int{least, 0, 0, 0}, [4]int{greatest, 0, 0, 0}, false},
		{[4]int{greatest, 0, 0, 0}, [4]int{least, 0, 0, 0}, true},
	}
	for _, c := range cases {
		if got := vector.Covers(c.a, c.b); got != c.want {
			t.Errorf("P8.1: Covers(%v, %v) = %t; want %t", c.a, c.b, got, c.want)
		}
	}
}

// TestCoversInOnePlace has vectors that differ in one place alone.
func TestCoversInOnePlace(t *testing.T) {
	for r := range 4 {
		for i, m := range seqs() {
			for j, n := range seqs() {
				a, b := withOne(filled(9), r, m), withOne(filled(9), r, n)
				if got := vector.Covers(a, b); got != (i >= j) {
					t.Errorf("P8.1: Covers(%v, %v) = %t", a, b, got)
				}
			}
		}
	}
}

func TestJoinIsTheLeastThatCoversBoth(t *testing.T) {
	all := someVectors()
	for i, a := range all {
		for j, b := range all {
			joined := vector.Join(a, b)
			if !vector.Covers(joined, a) || !vector.Covers(joined, b) {
				t.Errorf("P8.2: Join(%v, %v) = %v does not cover both", a, b, joined)
			}
			// Not all of them, or it would take long.
			for k := (i + j) % 3; k < len(all); k += 3 {
				if c := all[k]; vector.Covers(c, a) && vector.Covers(c, b) && !vector.Covers(c, joined) {
					t.Errorf("P8.2: %v covers %v and %v, and not their Join %v", c, a, b, joined)
				}
			}
		}
	}
}

func TestJoinOfTwoListsIsThatOfBoth(t *testing.T) {
	for _, a := range someLists() {
		for _, b := range someLists() {
			joined := vector.Join(vector.Of(a...), vector.Of(b...))
			if want := vector.Of(slices.Concat(a, b)...); joined != want {
				t.Errorf("P8.1: Join of %v's and %v's = %v; want %v", a, b, joined, want)
			}
		}
	}
}

func TestHas(t *testing.T) {
	for _, v := range someVectors() {
		for _, seq := range seqs() {
			for r := range 4 {
				if got, want := vector.Has(v, api.Id{Replica: r, Seq: seq}), known(v, api.Id{Replica: r, Seq: seq}); got != want {
					t.Errorf("P8.1: Has(%v, %d.%d) = %t", v, r, seq, got)
				}
			}
			for _, r := range noReplicas() {
				if vector.Has(v, api.Id{Replica: r, Seq: seq}) {
					t.Errorf("P8.1: Has(%v, %d.%d), though %d is no replica", v, r, seq, r)
				}
			}
		}
	}
}

// TestHasWritten has its answers written out.
func TestHasWritten(t *testing.T) {
	v := [4]int{1, 5, 0, lastSeq}
	cases := []struct {
		replica, seq int
		want         bool
	}{
		{0, least, false}, {0, -1, false}, {0, 0, false}, {0, 1, true}, {0, 2, false}, {0, 5, false},
		{1, -1, false}, {1, 0, false}, {1, 1, true}, {1, 4, true}, {1, 5, true}, {1, 6, false}, {1, greatest, false},
		{2, least, false}, {2, -1, false}, {2, 0, false}, {2, 1, false}, {2, lastSeq, false},
		{3, 0, false}, {3, 1, true}, {3, lastSeq - 1, true}, {3, lastSeq, true}, {3, lastSeq + 1, false}, {3, 1<<32 + 1, false},
		{-1, 1, false}, {4, 1, false}, {least, 1, false}, {greatest, 1, false},
	}
	for _, c := range cases {
		if got := vector.Has(v, api.Id{Replica: c.replica, Seq: c.seq}); got != c.want {
			t.Errorf("P8.1: Has(%v, %d.%d) = %t; want %t", v, c.replica, c.seq, got, c.want)
		}
	}
}

// TestHasAroundWhatIsKnown looks just at, just below and just above what is known of each replica, all others knowing much less, or much more.
func TestHasAroundWhatIsKnown(t *testing.T) {
	for r := range 4 {
		for _, last := range []int{1, 2, 5, lastSeq - 1, lastSeq, lastSeq + 1, greatest - 1} {
			for _, others := range []int{least, 0, greatest} {
				v := withOne(filled(others), r, last)
				if got := vector.Has(v, api.Id{Replica: r, Seq: last - 1}); got != (last > 1) {
					t.Errorf("P8.1: Has(%v) of the one below of %d = %t", v, r, got)
				}
				if !vector.Has(v, api.Id{Replica: r, Seq: last}) {
					t.Errorf("P8.1: Has(%v) of the last one of %d = false", v, r)
				}
				if vector.Has(v, api.Id{Replica: r, Seq: last + 1}) {
					t.Errorf("P8.1: Has(%v) of the one above of %d = true", v, r)
				}
			}
		}
	}
}

func TestLacking(t *testing.T) {
	for _, l := range someLists() {
		for _, v := range someVectors() {
			if got, want := vector.Lacking(v, l), lackingAnew(v, l); !slices.Equal(got, want) {
				t.Fatalf("P8.1: Lacking(%v, %v) = %v; want %v", v, l, got, want)
			}
		}
	}
}

// TestLackingWritten has its answers written out.
func TestLackingWritten(t *testing.T) {
	a, b, c, d := by(3, 2, 1), by(1, 4, 2), by(0, 1, 3), by(1, 3, 4)
	again := by(1, 4, 5)
	all := []api.Change{a, b, c, d, again}
	cases := []struct {
		name string
		v    [4]int
		l    []api.Change
		want []api.Change
	}{
		{"nil", [4]int{}, nil, nil},
		{"an empty list", [4]int{9, 9, 9, 9}, []api.Change{}, nil},
		{"all", [4]int{0, 2, 9, 1}, all, all},
		{"all, nothing being known", [4]int{}, all, all},
		{"none", [4]int{1, 4, 0, 2}, all, nil},
		{"none, much being known", filled(greatest), all, nil},
		{"some", [4]int{1, 3, 0, 1}, all, []api.Change{a, b, again}},
		{"the first", [4]int{1, 4, 0, 1}, all, []api.Change{a}},
		{"the last, and its like", [4]int{1, 3, 0, 2}, all, []api.Change{b, again}},
		{"one in between", [4]int{0, 4, 0, 2}, all, []api.Change{c}},
		{"such as have a Seq below 1", filled(9), []api.Change{by(0, 0, 1), by(1, 1, 2), by(2, -1, 3), by(3, least, 4)}, []api.Change{by(0, 0, 1), by(2, -1, 3), by(3, least, 4)}},
		{"such as are of no replica", filled(9), []api.Change{by(4, 1, 1), by(3, 1, 2), by(-1, 1, 3), by(least, 1, 4), by(greatest, 1, 5)}, []api.Change{by(4, 1, 1), by(-1, 1, 3), by(least, 1, 4), by(greatest, 1, 5)}},
	}
	for _, c := range cases {
		if got := vector.Lacking(c.v, c.l); !slices.Equal(got, c.want) {
			t.Errorf("P8.1: Lacking of %s = %v; want %v", c.name, got, c.want)
		}
	}
}

// TestLackingKeepsAllOfAChange looks at each field.
func TestLackingKeepsAllOfAChange(t *testing.T) {
	c := api.Change{Id: api.Id{Replica: 1, Seq: 2}, Time: 3, Kind: 4, A: 5, B: 6, N: 7, Ref: api.Id{Replica: 8, Seq: 9}}
	if got := vector.Lacking([4]int{9, 1, 9, 9}, []api.Change{c}); !slices.Equal(got, []api.Change{c}) {
		t.Errorf("P8.1: Lacking = %v; want %v", got, c)
	}
}

func TestLackingOfWhatIsKnown(t *testing.T) {
	for _, l := range someLists() {
		for _, c := range vector.Lacking(vector.Of(l...), l) {
			if c.Id.Replica >= 0 && c.Id.Replica < 4 && c.Id.Seq >= 1 {
				t.Errorf("P8.1: what is known of %v lacks %v", l, c)
			}
		}
	}
}

func TestNext(t *testing.T) {
	for _, n := range seqs() {
		for r := range 4 {
			for _, others := range []int{least, -1, 0, 7, lastSeq, greatest} {
				v := withOne(filled(others), r, n)
				want := api.Id{}
				if n < lastSeq {
					want = api.Id{Replica: r, Seq: n + 1}
				}
				if got := vector.Next(v, r); got != want {
					t.Errorf("P8.1: Next(%v, %d) = %v; want %v", v, r, got, want)
				}
			}
		}
		for _, r := range noReplicas() {
			if got := vector.Next(filled(n), r); got != (api.Id{}) {
				t.Errorf("P8.1: Next(%v, %d) = %v, though %d is no replica", filled(n), r, got, r)
			}
		}
	}
}

// TestNextWritten has its answers written out.
func TestNextWritten(t *testing.T) {
	v := [4]int{0, 41, 65534, 65535}
	for r, want := range map[int]api.Id{
		least: {}, -1: {}, 0: {Replica: 0, Seq: 1}, 1: {Replica: 1, Seq: 42}, 2: {Replica: 2, Seq: 65535}, 3: {}, 4: {}, greatest: {},
	} {
		if got := vector.Next(v, r); got != want {
			t.Errorf("P8.1: Next(%v, %d) = %v; want %v", v, r, got, want)
		}
	}
}

// TestNextIsJustWhatIsNotKnown takes Ids one by one.
func TestNextIsJustWhatIsNotKnown(t *testing.T) {
	var v [4]int
	for i := range 40 {
		a := vector.Next(v, i%4)
		if vector.Has(v, a) {
			t.Fatalf("P8.1: Next(%v, %d) = %v is known", v, i%4, a)
		}
		v = vector.Join(v, vector.Of(api.Change{Id: a}))
		if !vector.Has(v, a) {
			t.Fatalf("P8.1: %v is known, and Has(%v) does not tell so", a, v)
		}
	}
	if v != filled(10) {
		t.Errorf("P8.1: ten of each replica come to %v", v)
	}
}

// withSpareRoom is a copy of l with room behind it, and that copy with its room.
func withSpareRoom(l []api.Change) ([]api.Change, []api.Change) {
	whole := slices.Clone(l)
	for i := range 5 {
		whole = append(whole, by(1, 77, int64(i)))
	}
	return whole[:len(l):len(whole)], whole
}

// spoil writes to all of l, and to what room is behind it.
func spoil(l []api.Change) {
	l = l[:cap(l)]
	for i := range l {
		l[i] = by(-55, -55, -55)
	}
}

func TestMemory(t *testing.T) {
	for _, l := range someLists() {
		for _, v := range [][4]int{{}, filled(1), {0, 1, 2, 3}, filled(least), filled(greatest)} {
			given, whole := withSpareRoom(l)
			before := slices.Clone(whole)
			first := vector.Lacking(v, given)
			kept := slices.Clone(first)
			second := vector.Lacking(v, given)
			if !slices.Equal(whole, before) {
				t.Errorf("P2: Lacking changed what it was handed")
			}
			if !slices.Equal(second, kept) {
				t.Errorf("P3: Lacking answers %v, then %v", kept, second)
			}
			_ = append(first, by(-55, -55, -55))
			spoil(first)
			if !slices.Equal(whole, before) {
				t.Errorf("P2: an answer of Lacking shares memory with its argument")
			}
			if !slices.Equal(second, kept) {
				t.Errorf("P2: two answers of Lacking share memory")
			}
			spoil(whole)
			if !slices.Equal(second, kept) {
				t.Errorf("P2: Lacking kept its argument as its answer")
			}
		}
	}
}

func TestOfChangesNothing(t *testing.T) {
	for _, l := range someLists() {
		given, whole := withSpareRoom(l)
		before := slices.Clone(whole)
		first := vector.Of(given...)
		if !slices.Equal(whole, before) {
			t.Error("P2: Of changed what it was handed")
		}
		if second := vector.Of(given...); second != first {
			t.Errorf("P3: Of answers %v, then %v", first, second)
		}
	}
}

func TestVectorsThatAreHandedInStay(t *testing.T) {
	a, b := [4]int{1, 9, 3, 9}, [4]int{9, 2, 9, 4}
	joined := vector.Join(a, b)
	joined[0] = -1
	vector.Covers(a, b)
	vector.Has(a, api.Id{Replica: 1, Seq: 1})
	vector.Lacking(a, []api.Change{by(1, 1, 1)})
	vector.Next(a, 1)
	if a != [4]int{1, 9, 3, 9} || b != [4]int{9, 2, 9, 4} {
		t.Errorf("P2: vectors that were handed in are %v and %v now", a, b)
	}
}
