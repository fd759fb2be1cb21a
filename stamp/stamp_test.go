package stamp_test

import (
	"math"
	"math/rand"
	"slices"
	"sort"
	"testing"

	"countermand/api"
	"countermand/stamp"
)

const (
	least    = math.MinInt
	greatest = math.MaxInt
)

// at is a change with that stamp, and with a mark by which those of one stamp are told apart.
func at(time int, replica int, seq int, mark int64) api.Change {
	return api.Change{Id: api.Id{Replica: replica, Seq: seq}, Time: time, N: mark}
}

// numbers are numbers as they lie.
func numbers() []int {
	return []int{least, least + 1, -1 << 32, -2, -1, 0, 1, 2, 3, 255, 256, 1 << 16, 1 << 30, 1 << 32, greatest - 1, greatest}
}

// stampsInOrder are changes of all stamps made of those numbers, as they lie.
func stampsInOrder(l []int) []api.Change {
	var all []api.Change
	for _, time := range l {
		for _, replica := range l {
			for _, seq := range l {
				all = append(all, at(time, replica, seq, 0))
			}
		}
	}
	return all
}

func TestLess(t *testing.T) {
	l := stampsInOrder([]int{least, least + 1, -1, 0, 1, 2, 1 << 32, greatest - 1, greatest})
	for i, a := range l {
		for j, b := range l {
			if got := stamp.Less(a, b); got != (i < j) {
				t.Fatalf("P7.1: Less(%v, %v) = %t", a, b, got)
			}
		}
	}
}

// TestLessOfOneField holds against each other changes that differ in one field of the stamp alone.
func TestLessOfOneField(t *testing.T) {
	makers := map[string]func(n int) api.Change{
		"Time":    func(n int) api.Change { return at(n, 2, 7, 0) },
		"Replica": func(n int) api.Change { return at(5, n, 7, 0) },
		"Seq":     func(n int) api.Change { return at(5, 2, n, 0) },
	}
	for name, of := range makers {
		for i, m := range numbers() {
			for j, n := range numbers() {
				if got := stamp.Less(of(m), of(n)); got != (i < j) {
					t.Errorf("P7.1: Less of %s %d and %d = %t", name, m, n, got)
				}
			}
		}
	}
}

// TestLessOfOtherFields holds against each other changes of one stamp, and such as other fields would put the wrong way round.
func TestLessOfOtherFields(t *testing.T) {
	a := at(5, 2, 7, 0)
	others := []api.Change{
		{Id: a.Id, Time: a.Time, Kind: -1},
		{Id: a.Id, Time: a.Time, Kind: 1},
		{Id: a.Id, Time: a.Time, A: -1},
		{Id: a.Id, Time: a.Time, A: 1},
		{Id: a.Id, Time: a.Time, B: -1},
		{Id: a.Id, Time: a.Time, B: 1},
		{Id: a.Id, Time: a.Time, N: math.MinInt64},
		{Id: a.Id, Time: a.Time, N: math.MaxInt64},
		{Id: a.Id, Time: a.Time, Ref: api.Id{Replica: -1, Seq: -1}},
		{Id: a.Id, Time: a.Time, Ref: api.Id{Replica: 1}},
		{Id: a.Id, Time: a.Time, Ref: api.Id{Seq: 1}},
	}
	for _, b := range others {
		if stamp.Less(a, b) || stamp.Less(b, a) {
			t.Errorf("P7.1: %v and %v have one stamp, and one is Less", a, b)
		}
		later := b
		later.Time++
		if !stamp.Less(a, later) || stamp.Less(later, a) {
			t.Errorf("P7.1: %v is not ahead of %v", a, later)
		}
	}
}

func TestExample(t *testing.T) {
	a, b := at(3, 2, 1, 0), at(4, 0, 1, 0)
	if !stamp.Less(a, b) || stamp.Less(b, a) {
		t.Error("example 1: Time 3 of replica 2 is not ahead of Time 4 of replica 0")
	}
	if got := stamp.Sorted(b, a); !slices.Equal(got, []api.Change{a, b}) {
		t.Errorf("example 1: Sorted = %v", got)
	}
}

// above reckons anew, field by field, whether a lies behind b.
func above(a api.Change, b api.Change) bool {
	if a.Time != b.Time {
		return a.Time > b.Time
	}
	if a.Id.Replica != b.Id.Replica {
		return a.Id.Replica > b.Id.Replica
	}
	return a.Id.Seq > b.Id.Seq
}

// sortedAnew is l by stamps, its places being what parts those of one stamp.
func sortedAnew(l []api.Change) []api.Change {
	places := make([]int, len(l))
	for i := range l {
		places[i] = i
	}
	sort.Slice(places, func(i, j int) bool {
		a, b := places[i], places[j]
		return above(l[b], l[a]) || !above(l[a], l[b]) && a < b
	})
	sorted := make([]api.Change, 0, len(l))
	for _, i := range places {
		sorted = append(sorted, l[i])
	}
	return sorted
}

// putAnew is l with c behind the last one that is not above it.
func putAnew(l []api.Change, c api.Change) []api.Change {
	place := 0
	for i := range l {
		if !above(l[i], c) {
			place = i + 1
		}
	}
	var put []api.Change
	for i := 0; i <= len(l); i++ {
		if i == place {
			put = append(put, c)
		}
		if i < len(l) {
			put = append(put, l[i])
		}
	}
	return put
}

// someChanges are n changes of few stamps, in no order, each with a mark of its own.
func someChanges(r *rand.Rand, n int) []api.Change {
	few := []int{least, -1, 0, 1, 2, greatest}
	var l []api.Change
	for i := range n {
		l = append(l, at(few[r.Intn(len(few))], few[r.Intn(1+i%len(few))], few[r.Intn(1+n%len(few))], int64(i)))
	}
	return l
}

// lists are lists of all kinds: short ones, sorted ones, turned ones, such as have several with one stamp, and others.
func lists() [][]api.Change {
	sorted := []api.Change{at(-3, 0, 1, 1), at(1, 0, 1, 2), at(1, 0, 2, 3), at(1, 3, 1, 4), at(2, 0, 1, 5), at(9, 2, 4, 6)}
	turned := slices.Clone(sorted)
	slices.Reverse(turned)
	all := [][]api.Change{
		nil,
		{},
		{at(0, 0, 0, 1)},
		{at(4, 1, 2, 1)},
		{at(4, 1, 2, 1), at(4, 1, 2, 2)},
		{at(5, 1, 2, 1), at(4, 1, 2, 2)},
		{at(4, 1, 2, 3), at(4, 1, 2, 2), at(4, 1, 2, 1)},
		{at(1, 0, 1, 2), at(1, 0, 1, 1), at(0, 0, 1, 4), at(1, 0, 1, 0), at(0, 0, 1, 3)},
		{at(greatest, 0, 0, 1), at(least, 0, 0, 2), at(0, greatest, 0, 3), at(0, least, 0, 4), at(0, 0, greatest, 5), at(0, 0, least, 6)},
		sorted,
		turned,
		{at(1, 0, 1, 1), at(5, 0, 1, 2), at(2, 0, 1, 3), at(7, 0, 1, 4), at(3, 0, 1, 5), at(9, 0, 1, 6)},
	}
	r := rand.New(rand.NewSource(7))
	for n := range 60 {
		all = append(all, someChanges(r, n))
	}
	return all
}

func TestSorted(t *testing.T) {
	for _, l := range lists() {
		if got, want := stamp.Sorted(l...), sortedAnew(l); !slices.Equal(got, want) {
			t.Errorf("P7.1: Sorted(%v) = %v; want %v", l, got, want)
		}
	}
	if got := stamp.Sorted(); len(got) != 0 {
		t.Errorf("P7.1: Sorted() = %v", got)
	}
}

// TestSortedWritten has its answers written out.
func TestSortedWritten(t *testing.T) {
	a, b, c := at(1, 3, 9, 1), at(2, 1, 9, 2), at(2, 2, 1, 3)
	want := []api.Change{a, b, c}
	for _, l := range [][]api.Change{{a, b, c}, {a, c, b}, {b, a, c}, {b, c, a}, {c, a, b}, {c, b, a}} {
		if got := stamp.Sorted(l...); !slices.Equal(got, want) {
			t.Errorf("P7.1: Sorted(%v) = %v; want %v", l, got, want)
		}
	}
	first, second := at(2, 1, 9, 8), at(2, 1, 9, 7)
	if got, want := stamp.Sorted(c, first, a, second), []api.Change{a, first, second, c}; !slices.Equal(got, want) {
		t.Errorf("P7.1: Sorted = %v; want %v", got, want)
	}
}

// TestSortedLong has so many of one stamp that a way of sorting that does not keep them as they stood is seen.
func TestSortedLong(t *testing.T) {
	var l, want []api.Change
	for i := range 1000 {
		l = append(l, at(i%3, 0, 1, int64(i)))
	}
	for time := range 3 {
		for i := time; i < len(l); i += 3 {
			want = append(want, l[i])
		}
	}
	if got := stamp.Sorted(l...); !slices.Equal(got, want) {
		t.Errorf("P7.1: Sorted of many = %v; want %v", got, want)
	}
}

func TestPut(t *testing.T) {
	puts := stampsInOrder([]int{least, -1, 0, 1, 2, 4, greatest})
	for _, l := range lists() {
		for _, c := range puts {
			c.N = -1
			if got, want := stamp.Put(l, c), putAnew(l, c); !slices.Equal(got, want) {
				t.Fatalf("P7.1: Put(%v, %v) = %v; want %v", l, c, got, want)
			}
		}
	}
}

// TestPutWritten has its answers' places written out.
func TestPutWritten(t *testing.T) {
	sorted := []api.Change{at(2, 0, 1, 0), at(4, 1, 5, 0), at(4, 1, 5, 1), at(6, 0, 1, 0)}
	unsorted := []api.Change{at(5, 0, 1, 0), at(2, 0, 1, 0), at(9, 0, 1, 0), at(3, 0, 1, 0), at(8, 0, 1, 0)}
	same := []api.Change{at(1, 1, 1, 0), at(1, 1, 1, 1), at(1, 1, 1, 2)}
	cases := []struct {
		name  string
		l     []api.Change
		c     api.Change
		place int
	}{
		{"into nothing", nil, at(1, 1, 1, 9), 0},
		{"into nothing, below 0", nil, at(-1, -1, -1, 9), 0},
		{"ahead of all", sorted, at(1, 3, 9, 9), 0},
		{"ahead of all, the least", sorted, at(least, least, least, 9), 0},
		{"behind all", sorted, at(7, 0, 0, 9), 4},
		{"behind all, the greatest", sorted, at(greatest, greatest, greatest, 9), 4},
		{"in between by Time", sorted, at(3, 3, 9, 9), 1},
		{"in between by Replica, ahead", sorted, at(4, 0, 9, 9), 1},
		{"in between by Replica, behind", sorted, at(4, 2, 1, 9), 3},
		{"in between by Seq, ahead", sorted, at(4, 1, 4, 9), 1},
		{"in between by Seq, behind", sorted, at(4, 1, 6, 9), 3},
		{"behind its like", sorted, at(4, 1, 5, 9), 3},
		{"behind its like, the first", sorted, at(2, 0, 1, 9), 1},
		{"behind its like, the last", sorted, at(6, 0, 1, 9), 4},
		{"behind its like, all", same, at(1, 1, 1, 9), 3},
		{"ahead of its like", same, at(1, 1, 0, 9), 0},
		{"not sorted, below all", unsorted, at(1, 0, 1, 9), 0},
		{"not sorted, as the least", unsorted, at(2, 0, 1, 9), 2},
		{"not sorted, above the fourth", unsorted, at(4, 0, 1, 9), 4},
		{"not sorted, above the last", unsorted, at(8, 0, 1, 9), 5},
	}
	for _, c := range cases {
		want := slices.Insert(slices.Clone(c.l), c.place, c.c)
		if got := stamp.Put(c.l, c.c); !slices.Equal(got, want) {
			t.Errorf("P7.1: Put %s = %v; want %v", c.name, got, want)
		}
	}
}

// TestPutKeepsSorted looks at sorted lists alone: c goes in, and the list stays sorted.
func TestPutKeepsSorted(t *testing.T) {
	for _, l := range lists() {
		l = stamp.Sorted(l...)
		for _, c := range stampsInOrder([]int{least, -1, 0, 1, 3, greatest}) {
			got := stamp.Put(l, c)
			for i := 1; i < len(got); i++ {
				if above(got[i-1], got[i]) {
					t.Fatalf("P7.1: Put(%v, %v) = %v, which is not sorted", l, c, got)
				}
			}
		}
	}
}

func TestPutOneByOneIsSorted(t *testing.T) {
	for _, l := range lists() {
		var got []api.Change
		for _, c := range l {
			got = stamp.Put(got, c)
		}
		if want := stamp.Sorted(l...); !slices.Equal(got, want) || !slices.Equal(got, sortedAnew(l)) {
			t.Errorf("P7.2: all of %v put one by one is %v; want %v", l, got, want)
		}
	}
}

func TestFind(t *testing.T) {
	// The first two have Time, A and Ref where one might look for an Id's numbers.
	l := []api.Change{
		{Id: api.Id{Replica: 3, Seq: 9}, Time: 1, A: 1, B: 1, N: 1, Ref: api.Id{Replica: 1, Seq: 2}},
		{Id: api.Id{Replica: 2, Seq: 1}, Time: 7, Ref: api.Id{Replica: 1, Seq: 1}},
		{Id: api.Id{Replica: 1, Seq: 2}, Time: 5},
		{Id: api.Id{Replica: 1, Seq: 1}, Time: 9},
		{Id: api.Id{Replica: 1, Seq: 2}, Time: 4},
		{Id: api.Id{Replica: least, Seq: greatest}, Time: 4},
		{Id: api.Id{Replica: -1, Seq: -1}, Time: -4},
		{Id: api.Id{}, Time: 4},
		{Id: api.Id{Replica: 3, Seq: 9}, Time: 1},
	}
	cases := []struct {
		replica, seq, place int
	}{
		{3, 9, 0}, {2, 1, 1}, {1, 2, 2}, {1, 1, 3}, {least, greatest, 5}, {-1, -1, 6}, {0, 0, 7},
		{9, 3, -1}, {2, 9, -1}, {3, 1, -1}, {1, 0, -1}, {0, 1, -1}, {1, 3, -1}, {2, 2, -1}, {greatest, least, -1}, {least, least, -1}, {greatest, greatest, -1},
		{-1, 1, -1}, {1, -1, -1}, {1, 1<<32 + 2, -1}, {1<<32 + 1, 2, -1},
	}
	for _, c := range cases {
		a := api.Id{Replica: c.replica, Seq: c.seq}
		if got := stamp.Find(l, a); got != c.place {
			t.Errorf("P7.1: Find(%v) = %d; want %d", a, got, c.place)
		}
		if got := stamp.Find(nil, a); got != -1 {
			t.Errorf("P7.1: Find of nothing = %d", got)
		}
		if got := stamp.Find([]api.Change{}, a); got != -1 {
			t.Errorf("P7.1: Find of an empty list = %d", got)
		}
		if got := stamp.Find([]api.Change{{Id: a, Time: -1}}, a); got != 0 {
			t.Errorf("P7.1: Find of the only one = %d", got)
		}
		if got := stamp.Find(l[:0], a); got != -1 {
			t.Errorf("P7.1: Find looks behind a list's end: %d", got)
		}
	}
}

func TestWithout(t *testing.T) {
	for _, l := range lists() {
		places := []int{least, least + 1, -1 << 32, -len(l), -2, -1, len(l), len(l) + 1, 1 << 32, greatest - 1, greatest}
		for i := range l {
			places = append(places, i)
		}
		for _, i := range places {
			var want []api.Change
			for j, c := range l {
				if j != i {
					want = append(want, c)
				}
			}
			if got := stamp.Without(l, i); !slices.Equal(got, want) {
				t.Errorf("P7.1: Without(%v, %d) = %v; want %v", l, i, got, want)
			}
		}
	}
}

// TestWithoutWritten has its answers written out.
func TestWithoutWritten(t *testing.T) {
	a, b, c := at(3, 0, 1, 0), at(1, 0, 1, 0), at(2, 0, 1, 0)
	l := []api.Change{a, b, c}
	for i, want := range map[int][]api.Change{
		least: l, -3: l, -1: l, 0: {b, c}, 1: {a, c}, 2: {a, b}, 3: l, 4: l, greatest: l,
	} {
		if got := stamp.Without(l, i); !slices.Equal(got, want) {
			t.Errorf("P7.1: Without(%d) = %v; want %v", i, got, want)
		}
	}
	if got := stamp.Without([]api.Change{a}, 0); len(got) != 0 {
		t.Errorf("P7.1: Without the only one = %v", got)
	}
	for _, i := range []int{least, -1, 0, 1, greatest} {
		if got := stamp.Without(nil, i); len(got) != 0 {
			t.Errorf("P7.1: Without(nil, %d) = %v", i, got)
		}
	}
}

func TestLast(t *testing.T) {
	cases := []struct {
		times []int
		want  int
	}{
		{nil, 0},
		{[]int{0}, 0},
		{[]int{7}, 7},
		{[]int{-1}, 0},
		{[]int{least}, 0},
		{[]int{greatest}, greatest},
		{[]int{-5, least, -1}, 0},
		{[]int{-5, 0, -1}, 0},
		{[]int{-5, 1, -1}, 1},
		{[]int{1, 2, 3}, 3},
		{[]int{3, 2, 1}, 3},
		{[]int{2, 3, 1}, 3},
		{[]int{3, 3}, 3},
		{[]int{1 << 31, 1<<32 + 1, 5}, 1<<32 + 1},
		{[]int{greatest - 1, greatest, least}, greatest},
	}
	for _, c := range cases {
		var l []api.Change
		for i, time := range c.times {
			l = append(l, at(time, 9-i, greatest-i, math.MaxInt64))
		}
		if got := stamp.Last(l...); got != c.want {
			t.Errorf("P7.1: Last of Times %v = %d; want %d", c.times, got, c.want)
		}
	}
	if got := stamp.Last(); got != 0 {
		t.Errorf("P7.1: Last() = %d", got)
	}
}

// calls are all calls that answer a list, each a few times, told by name.
func calls() map[string]func(l []api.Change) []api.Change {
	put := func(c api.Change) func([]api.Change) []api.Change {
		return func(l []api.Change) []api.Change { return stamp.Put(l, c) }
	}
	without := func(i int) func([]api.Change) []api.Change {
		return func(l []api.Change) []api.Change { return stamp.Without(l, i) }
	}
	return map[string]func(l []api.Change) []api.Change{
		"Sorted":               func(l []api.Change) []api.Change { return stamp.Sorted(l...) },
		"Put ahead":            put(at(least, 0, 1, 99)),
		"Put between":          put(at(1, 1, 1, 99)),
		"Put behind":           put(at(greatest, greatest, greatest, 99)),
		"Without the first":    without(0),
		"Without the second":   without(1),
		"Without none":         without(-1),
		"Without none behind":  without(1 << 20),
		"Without a middle one": without(3),
	}
}

// withSpareRoom is a copy of l with room behind it, and that copy with its room.
func withSpareRoom(l []api.Change) ([]api.Change, []api.Change) {
	whole := slices.Clone(l)
	for i := range 5 {
		whole = append(whole, at(77, 77, 77, int64(i)))
	}
	return whole[:len(l):len(whole)], whole
}

// spoil writes to all of l, and to what room is behind it.
func spoil(l []api.Change) {
	l = l[:cap(l)]
	for i := range l {
		l[i] = at(-55, -55, -55, -55)
	}
}

func TestMemory(t *testing.T) {
	for _, l := range lists() {
		for name, call := range calls() {
			given, whole := withSpareRoom(l)
			before := slices.Clone(whole)
			first := call(given)
			kept := slices.Clone(first)
			second := call(given)
			if !slices.Equal(whole, before) {
				t.Errorf("P2: %s changed what it was handed", name)
			}
			if !slices.Equal(second, kept) {
				t.Errorf("P3: %s answers %v, then %v", name, kept, second)
			}
			_ = append(first, at(-55, -55, -55, -55))
			spoil(first)
			if !slices.Equal(whole, before) {
				t.Errorf("P2: an answer of %s shares memory with its argument", name)
			}
			if !slices.Equal(second, kept) {
				t.Errorf("P2: two answers of %s share memory", name)
			}
			spoil(whole)
			if !slices.Equal(second, kept) {
				t.Errorf("P2: %s kept its argument as its answer", name)
			}
		}
	}
}

func TestCallsWithoutListsChangeNothing(t *testing.T) {
	for _, l := range lists() {
		given, whole := withSpareRoom(l)
		before := slices.Clone(whole)
		stamp.Last(given...)
		stamp.Find(given, api.Id{Replica: 1, Seq: 1})
		if !slices.Equal(whole, before) {
			t.Error("P2: Last or Find changed what it was handed")
		}
	}
}
