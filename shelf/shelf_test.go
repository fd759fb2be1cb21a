package shelf_test

import (
	"fmt"
	"math"
	"math/big"
	"math/rand"
	"reflect"
	"slices"
	"testing"

	"countermand/api"
	"countermand/shelf"
)

const (
	least     = math.MinInt64
	greatest  = math.MaxInt64
	maxItem   = 7
	maxPrice  = 1 << 30
	maxAmount = 1 << 40
)

// call is one of the three calls that answer a booking.
type call struct {
	name string
	do   func(b api.Book, i int, n int64) (api.Book, api.Errno)
	anew func(b api.Book, i int, n int64) (api.Book, api.Errno)
}

// calls are all of them, each with its reckoning anew.
func calls() []call {
	return []call{
		{"Add", shelf.Add, addAnew},
		{"Take", shelf.Take, takeAnew},
		{"Price", shelf.Price, priceAnew},
	}
}

// isItem tells by a switch whether there is an item i.
func isItem(i int) bool {
	switch i {
	case 0, 1, 2, 3, 4, 5, 6, 7:
		return true
	}
	return false
}

// whole is n, as a number of any size.
func whole(n int64) *big.Int {
	return big.NewInt(n)
}

// above tells whether n is more than hi.
func above(n *big.Int, hi int64) bool {
	return n.Cmp(whole(hi)) > 0
}

// copied is b with a list of its own, one order put behind the other.
func copied(b api.Book) api.Book {
	var l []api.Order
	for _, o := range b.Orders {
		l = append(l, o)
	}
	b.Orders = l
	return b
}

// addAnew reckons with numbers of any size.
func addAnew(b api.Book, i int, n int64) (api.Book, api.Errno) {
	if !isItem(i) || n < 0 || n > maxAmount {
		return api.Book{}, api.ErrRange
	}
	sum := new(big.Int).Add(whole(b.Stock[i]), whole(n))
	if above(sum, maxAmount) {
		return api.Book{}, api.ErrOver
	}
	b = copied(b)
	b.Stock[i] = sum.Int64()
	return b, api.OK
}

// takeAnew reckons with numbers of any size.
func takeAnew(b api.Book, i int, n int64) (api.Book, api.Errno) {
	if !isItem(i) || n < 0 || n > maxAmount {
		return api.Book{}, api.ErrRange
	}
	left := new(big.Int).Sub(whole(b.Stock[i]), whole(n))
	if left.Sign() < 0 {
		return api.Book{}, api.ErrShort
	}
	b = copied(b)
	b.Stock[i] = left.Int64()
	return b, api.OK
}

// priceAnew looks at each bound apart.
func priceAnew(b api.Book, i int, n int64) (api.Book, api.Errno) {
	if !isItem(i) || n < 0 || n > maxPrice {
		return api.Book{}, api.ErrRange
	}
	b = copied(b)
	b.Price[i] = n
	return b, api.OK
}

// costAnew reckons with numbers of any size.
func costAnew(b api.Book, i int, n int64) (int64, api.Errno) {
	if !isItem(i) || n < 0 || n > maxAmount {
		return 0, api.ErrRange
	}
	product := new(big.Int).Mul(whole(n), whole(b.Price[i]))
	if above(product, maxAmount) || !product.IsInt64() {
		return 0, api.ErrOver
	}
	return product.Int64(), api.OK
}

// noItems are numbers that no item has, such among them as have an item's lower bits.
func noItems() []int {
	return []int{least, least + 1, least + 3, -1 << 32, -1<<32 + 3, -257, -256, -9, -8, -7, -2, -1, 8, 9, 10, 15, 16, 255, 256, 257, 1 << 31, 1 << 32, 1<<32 + 3, greatest - 1, greatest}
}

// places are all items, and numbers that no item has.
func places() []int {
	return append([]int{0, 1, 2, 3, 4, 5, 6, 7}, noItems()...)
}

// amounts are numbers at all edges.
func amounts() []int64 {
	return []int64{
		least, least + 1, least + 5, -1 << 41, -maxAmount - 1, -maxAmount, -1<<32 + 1, -maxPrice, -1000, -2, -1,
		0, 1, 2, 3, 5, 999, 1000, 1001, 1 << 10, 1<<10 + 1, 1<<20 - 1, 1 << 20, 1<<20 + 1, maxPrice - 1, maxPrice, maxPrice + 1, 1 << 31, 1 << 32, 1<<32 + 1,
		maxAmount/2 - 1, maxAmount / 2, maxAmount/2 + 1, maxAmount - 1, maxAmount, maxAmount + 1, maxAmount + 2, 1 << 41, 1 << 62, greatest - 1, greatest,
	}
}

// manyOrders are n orders, each part unlike all others.
func manyOrders(n int) []api.Order {
	var l []api.Order
	for k := range n {
		m := int64(k) * 10
		l = append(l, api.Order{Id: api.Id{Replica: 100 + k, Seq: 200 + k}, Buyer: 300 + k, Item: k % 9, Qty: 1000 + m, Cost: 5000 + m, State: 1 + k%5})
	}
	return l
}

// distinct is a booking each part of which is unlike all others, and may be.
func distinct() api.Book {
	return api.Book{
		Stock:  [8]int64{10, 21, 32, 43, 54, 65, 76, 87},
		Price:  [8]int64{110, 121, 132, 143, 154, 165, 176, 187},
		Purse:  [8]int64{210, 221, 232, 243, 254, 265, 276, 287},
		Orders: manyOrders(5),
	}
}

// stockOf is distinct with s of item i in stock.
func stockOf(i int, s int64) api.Book {
	b := distinct()
	b.Stock[i] = s
	return b
}

// priceOf is distinct with p as what one of item i costs.
func priceOf(i int, p int64) api.Book {
	b := distinct()
	b.Price[i] = p
	return b
}

// oneOf is any of l.
func oneOf(random *rand.Rand, l []int64) int64 {
	return l[random.Intn(len(l))]
}

// someBooks are bookings of all kinds: new ones, such as may be, and such as may not.
func someBooks() []api.Book {
	all := []api.Book{{}, {Orders: []api.Order{}}, {Orders: manyOrders(32)}, {Orders: manyOrders(40)}, distinct()}
	for _, n := range amounts() {
		var b api.Book
		for i := range b.Stock {
			b.Stock[i], b.Price[i], b.Purse[i] = n, n, n
		}
		all = append(all, b)
	}
	random := rand.New(rand.NewSource(13))
	for k := range 40 {
		b := api.Book{Orders: manyOrders(k)}
		for i := range b.Stock {
			b.Stock[i], b.Price[i], b.Purse[i] = oneOf(random, amounts()), oneOf(random, amounts()), oneOf(random, amounts())
		}
		all = append(all, b)
	}
	for range 20 {
		b := distinct()
		for i := range b.Stock {
			b.Stock[i], b.Price[i], b.Purse[i] = random.Int63n(maxAmount+1), random.Int63n(maxPrice+1), random.Int63n(maxAmount+1)
		}
		all = append(all, b)
	}
	return all
}

// around are b's own numbers of item i and those about them, and what is lacking to MaxAmount.
func around(b api.Book, i int) []int64 {
	if !isItem(i) {
		return nil
	}
	s, p := b.Stock[i], b.Price[i]
	l := []int64{s - 1, s, s + 1, maxAmount - s - 1, maxAmount - s, maxAmount - s + 1, p - 1, p, p + 1}
	if p != 0 {
		l = append(l, maxAmount/p-1, maxAmount/p, maxAmount/p+1, greatest/p, greatest/p+1)
	}
	return l
}

// same tells whether both are alike, part by part; a nil list is an empty one.
func same(a api.Book, b api.Book) bool {
	return a.Stock == b.Stock && a.Price == b.Price && a.Purse == b.Purse && slices.Equal(a.Orders, b.Orders)
}

// empty tells whether nothing is in b at all.
func empty(b api.Book) bool {
	return b.Stock == [8]int64{} && b.Price == [8]int64{} && b.Purse == [8]int64{} && len(b.Orders) == 0
}

func TestExample(t *testing.T) {
	if b, e := shelf.Take(api.Book{}, 0, 1); e != api.ErrShort || !empty(b) {
		t.Errorf("example 1: Take 1 of a new booking = %v, %d", b, e)
	}
	if shelf.Has(api.Book{}, 0, 1) {
		t.Error("example 1: a new booking has 1")
	}
}

func TestItem(t *testing.T) {
	for i := 0; i <= maxItem; i++ {
		if !shelf.Item(i) {
			t.Errorf("P13.1: there is no item %d", i)
		}
	}
	for _, i := range noItems() {
		if shelf.Item(i) {
			t.Errorf("P13.1: there is an item %d", i)
		}
	}
	for i := -5000; i <= 5000; i++ {
		if got := shelf.Item(i); got != isItem(i) {
			t.Errorf("P13.1: Item(%d) = %v", i, got)
		}
	}
	for bit := range 64 {
		for _, i := range []int{1 << bit, -1 << bit, 1<<bit | 5, ^(1 << bit)} {
			if got := shelf.Item(i); got != isItem(i) {
				t.Errorf("P13.1: Item(%d) = %v", i, got)
			}
		}
	}
}

// TestAnew holds the calls that answer a booking against their reckoning anew.
func TestAnew(t *testing.T) {
	for _, c := range calls() {
		for k, b := range someBooks() {
			for _, i := range places() {
				for _, n := range append(amounts(), around(b, i)...) {
					got, e := c.do(b, i, n)
					want, no := c.anew(b, i, n)
					if e != no || !same(got, want) {
						t.Fatalf("P13.1: %s(booking %d, %d, %d) = %v, %d; want %v, %d", c.name, k, i, n, got, e, want, no)
					}
				}
			}
		}
	}
}

func TestCostAnew(t *testing.T) {
	for k, b := range someBooks() {
		for _, i := range places() {
			for _, n := range append(amounts(), around(b, i)...) {
				got, e := shelf.Cost(b, i, n)
				if want, no := costAnew(b, i, n); got != want || e != no {
					t.Fatalf("P13.1: Cost(booking %d, %d, %d) = %d, %d; want %d, %d", k, i, n, got, e, want, no)
				}
			}
		}
	}
}

func TestHasIsTake(t *testing.T) {
	for k, b := range someBooks() {
		for _, i := range places() {
			for _, n := range append(amounts(), around(b, i)...) {
				_, e := shelf.Take(b, i, n)
				_, no := takeAnew(b, i, n)
				if got := shelf.Has(b, i, n); got != (e == api.OK) || got != (no == api.OK) {
					t.Fatalf("P13.1: Has(booking %d, %d, %d) = %v, and Take's error is %d", k, i, n, got, e)
				}
			}
		}
	}
}

// stocked is what a call does with so many of an item in stock: what is in stock then, or the error.
type stocked struct {
	have, n, left int64
	e             api.Errno
}

// holdStock looks at one case for each item, in a booking that has orders and in one that has none.
func holdStock(t *testing.T, name string, do func(b api.Book, i int, n int64) (api.Book, api.Errno), c stocked) {
	t.Helper()
	for i := 0; i <= maxItem; i++ {
		for _, b := range []api.Book{stockOf(i, c.have), {Stock: [8]int64{}}} {
			b.Stock[i] = c.have
			want := b
			want.Stock[i] = c.left
			if c.e != api.OK {
				want = api.Book{}
			}
			if got, e := do(b, i, c.n); e != c.e || !same(got, want) {
				t.Errorf("P13.1: %s of %d, where %d of item %d are there = %v, %d; want %v, %d", name, c.n, c.have, i, got, e, want, c.e)
			}
		}
	}
}

func TestAddWritten(t *testing.T) {
	for _, c := range []stocked{
		{0, 0, 0, api.OK},
		{0, 1, 1, api.OK},
		{0, maxAmount - 1, 1099511627775, api.OK},
		{0, maxAmount, 1099511627776, api.OK},
		{0, maxAmount + 1, 0, api.ErrRange},
		{0, -1, 0, api.ErrRange},
		{0, least, 0, api.ErrRange},
		{0, greatest, 0, api.ErrRange},
		{5, 0, 5, api.OK},
		{5, 1, 6, api.OK},
		{5, 7, 12, api.OK},
		{5, maxAmount - 6, 1099511627775, api.OK},
		{5, maxAmount - 5, 1099511627776, api.OK},
		{5, maxAmount - 4, 0, api.ErrOver},
		{5, maxAmount, 0, api.ErrOver},
		{5, maxAmount + 1, 0, api.ErrRange},
		{5, -1, 0, api.ErrRange},
		{5, -5, 0, api.ErrRange},
		{maxAmount - 1, 0, 1099511627775, api.OK},
		{maxAmount - 1, 1, 1099511627776, api.OK},
		{maxAmount - 1, 2, 0, api.ErrOver},
		{maxAmount, 0, 1099511627776, api.OK},
		{maxAmount, 1, 0, api.ErrOver},
		{maxAmount, maxAmount, 0, api.ErrOver},
		{maxAmount, maxAmount + 1, 0, api.ErrRange},
		{maxAmount, -1, 0, api.ErrRange},
		{maxAmount, least, 0, api.ErrRange},
		{maxAmount, greatest, 0, api.ErrRange},
		// Of bookings that have more than may be.
		{maxAmount + 1, 0, 0, api.ErrOver},
		{maxAmount + 1, 1, 0, api.ErrOver},
		{maxAmount + 1, -1, 0, api.ErrRange},
		{greatest, 0, 0, api.ErrOver},
		{greatest, 1, 0, api.ErrOver},
		{greatest, maxAmount, 0, api.ErrOver},
		{greatest, -1, 0, api.ErrRange},
		// Of bookings that have less than nothing.
		{-5, 0, -5, api.OK},
		{-5, 5, 0, api.OK},
		{-5, 7, 2, api.OK},
		{-5, maxAmount, maxAmount - 5, api.OK},
		{-maxAmount, maxAmount, 0, api.OK},
		{least, 1, least + 1, api.OK},
		{least, maxAmount, least + maxAmount, api.OK},
		{least, -1, 0, api.ErrRange},
	} {
		holdStock(t, "Add", shelf.Add, c)
	}
}

func TestTakeWritten(t *testing.T) {
	for _, c := range []stocked{
		{0, 0, 0, api.OK},
		{0, 1, 0, api.ErrShort},
		{0, maxAmount, 0, api.ErrShort},
		{0, maxAmount + 1, 0, api.ErrRange},
		{0, -1, 0, api.ErrRange},
		{0, least, 0, api.ErrRange},
		{0, greatest, 0, api.ErrRange},
		{5, 0, 5, api.OK},
		{5, 1, 4, api.OK},
		{5, 4, 1, api.OK},
		{5, 5, 0, api.OK},
		{5, 6, 0, api.ErrShort},
		{5, maxAmount, 0, api.ErrShort},
		{5, maxAmount + 1, 0, api.ErrRange},
		{5, -1, 0, api.ErrRange},
		{maxAmount, 0, 1099511627776, api.OK},
		{maxAmount, 1, 1099511627775, api.OK},
		{maxAmount, maxAmount - 1, 1, api.OK},
		{maxAmount, maxAmount, 0, api.OK},
		{maxAmount, maxAmount + 1, 0, api.ErrRange},
		{maxAmount, -1, 0, api.ErrRange},
		{maxAmount, least, 0, api.ErrRange},
		{maxAmount, greatest, 0, api.ErrRange},
		{maxAmount - 1, maxAmount, 0, api.ErrShort},
		// Of bookings that have more than may be.
		{maxAmount + 1, 1, 1099511627776, api.OK},
		{maxAmount + 1, maxAmount, 1, api.OK},
		{maxAmount + 1, maxAmount + 1, 0, api.ErrRange},
		{greatest, 0, greatest, api.OK},
		{greatest, maxAmount, greatest - maxAmount, api.OK},
		{greatest, greatest, 0, api.ErrRange},
		// Of bookings that have less than nothing.
		{-1, 0, 0, api.ErrShort},
		{-5, 1, 0, api.ErrShort},
		{-5, -5, 0, api.ErrRange},
		{least, 0, 0, api.ErrShort},
		{least, 1, 0, api.ErrShort},
		{least, maxAmount, 0, api.ErrShort},
		{least, least, 0, api.ErrRange},
	} {
		holdStock(t, "Take", shelf.Take, c)
	}
}

func TestPriceWritten(t *testing.T) {
	for _, c := range []struct {
		n int64
		e api.Errno
	}{
		{0, api.OK},
		{1, api.OK},
		{1073741823, api.OK},
		{1073741824, api.OK},
		{1073741825, api.ErrRange},
		{maxAmount, api.ErrRange},
		{1 << 62, api.ErrRange},
		{greatest, api.ErrRange},
		{-1, api.ErrRange},
		{-maxPrice, api.ErrRange},
		{least, api.ErrRange},
	} {
		for _, had := range []int64{0, 1, 7, maxPrice, maxPrice + 1, -1, least, greatest} {
			for i := 0; i <= maxItem; i++ {
				want := priceOf(i, c.n)
				if c.e != api.OK {
					want = api.Book{}
				}
				if got, e := shelf.Price(priceOf(i, had), i, c.n); e != c.e || !same(got, want) {
					t.Errorf("P13.1: Price %d of item %d, that cost %d = %v, %d; want %v, %d", c.n, i, had, got, e, want, c.e)
				}
			}
		}
	}
}

func TestCostWritten(t *testing.T) {
	for _, c := range []struct {
		price, n, want int64
		e              api.Errno
	}{
		{0, 0, 0, api.OK},
		{0, 1, 0, api.OK},
		{0, maxAmount, 0, api.OK},
		{0, maxAmount + 1, 0, api.ErrRange},
		{0, -1, 0, api.ErrRange},
		{0, least, 0, api.ErrRange},
		{0, greatest, 0, api.ErrRange},
		{1, 0, 0, api.OK},
		{1, 1, 1, api.OK},
		{1, maxAmount, 1099511627776, api.OK},
		{1, maxAmount + 1, 0, api.ErrRange},
		{2, maxAmount / 2, 1099511627776, api.OK},
		{2, maxAmount/2 + 1, 0, api.ErrOver},
		{3, 366503875925, 1099511627775, api.OK},
		{3, 366503875926, 0, api.ErrOver},
		{7, 6, 42, api.OK},
		{7, -6, 0, api.ErrRange},
		{maxPrice, 0, 0, api.OK},
		{maxPrice, 1, 1073741824, api.OK},
		{maxPrice, 1023, 1098437885952, api.OK},
		{maxPrice, 1024, 1099511627776, api.OK},
		{maxPrice, 1025, 0, api.ErrOver},
		{maxPrice - 1, 1024, 1099511626752, api.OK},
		{maxPrice - 1, 1025, 0, api.ErrOver},
		// The products of these are none of 64 bits; some wrap round to one from 0 to MaxAmount.
		{maxPrice, maxAmount, 0, api.ErrOver},
		{maxPrice, 1 << 34, 0, api.ErrOver},
		{maxPrice, 1<<34 + 1, 0, api.ErrOver},
		{maxPrice, maxAmount + 1, 0, api.ErrRange},
		{maxPrice, -1, 0, api.ErrRange},
		{maxPrice, least, 0, api.ErrRange},
		{maxPrice, greatest, 0, api.ErrRange},
		// Of bookings with prices that may not be.
		{maxAmount, 1, 1099511627776, api.OK},
		{maxAmount + 1, 1, 0, api.ErrOver},
		{maxAmount + 1, 0, 0, api.OK},
		{greatest, 0, 0, api.OK},
		{greatest, 1, 0, api.ErrOver},
		{greatest, 2, 0, api.ErrOver},
		{greatest, maxAmount, 0, api.ErrOver},
		{greatest, -1, 0, api.ErrRange},
		{1 << 62, 2, 0, api.ErrOver},
		{1 << 62, 4, 0, api.ErrOver},
		{1<<62 + 1, 4, 0, api.ErrOver},
		{-1, 0, 0, api.OK},
		{-1, 5, -5, api.OK},
		{-1, maxAmount, -1099511627776, api.OK},
		{-maxAmount, maxAmount, 0, api.ErrOver},
		{least, 0, 0, api.OK},
		{least, 1, least, api.OK},
		{least, 2, 0, api.ErrOver},
		{least, maxAmount, 0, api.ErrOver},
		{least, -1, 0, api.ErrRange},
		{least / 2, 2, least, api.OK},
		{least / 2, 3, 0, api.ErrOver},
	} {
		for i := 0; i <= maxItem; i++ {
			for _, b := range []api.Book{priceOf(i, c.price), {}} {
				b.Price[i] = c.price
				if got, e := shelf.Cost(b, i, c.n); got != c.want || e != c.e {
					t.Errorf("P13.1: Cost of %d of item %d at %d = %d, %d; want %d, %d", c.n, i, c.price, got, e, c.want, c.e)
				}
			}
		}
	}
}

func TestHasWritten(t *testing.T) {
	for _, c := range []struct {
		have, n int64
		want    bool
	}{
		{0, 0, true},
		{0, 1, false},
		{0, -1, false},
		{5, 0, true},
		{5, 4, true},
		{5, 5, true},
		{5, 6, false},
		{5, -1, false},
		{5, maxAmount, false},
		{maxAmount, maxAmount, true},
		{maxAmount, maxAmount + 1, false},
		{maxAmount - 1, maxAmount, false},
		{greatest, maxAmount, true},
		{greatest, maxAmount + 1, false},
		{greatest, greatest, false},
		{-1, 0, false},
		{-1, -1, false},
		{least, 0, false},
		{least, least, false},
	} {
		for i := 0; i <= maxItem; i++ {
			if got := shelf.Has(stockOf(i, c.have), i, c.n); got != c.want {
				t.Errorf("P13.1: Has %d, where %d of item %d are there = %v; want %v", c.n, c.have, i, got, c.want)
			}
		}
	}
}

// TestNoItem has every number that no item has, with n that may be, and with n that would be another error of an item.
func TestNoItem(t *testing.T) {
	for _, i := range noItems() {
		for k, b := range someBooks() {
			for _, n := range amounts() {
				for _, c := range calls() {
					if got, e := c.do(b, i, n); e != api.ErrRange || !empty(got) {
						t.Fatalf("P13.1: %s(booking %d, %d, %d) = %v, %d; want ErrRange", c.name, k, i, n, got, e)
					}
				}
				if got, e := shelf.Cost(b, i, n); e != api.ErrRange || got != 0 {
					t.Fatalf("P13.1: Cost(booking %d, %d, %d) = %d, %d; want ErrRange", k, i, n, got, e)
				}
				if shelf.Has(b, i, n) {
					t.Fatalf("P13.1: Has(booking %d, %d, %d)", k, i, n)
				}
			}
		}
	}
}

// TestRangeFirst has n that may not be, where it would also be too much or too few.
func TestRangeFirst(t *testing.T) {
	full := api.Book{Orders: manyOrders(3)}
	for i := range full.Stock {
		full.Stock[i], full.Price[i] = maxAmount, maxPrice
	}
	beyond := full
	for i := range beyond.Stock {
		beyond.Stock[i], beyond.Price[i] = greatest, greatest
	}
	for i := 0; i <= maxItem; i++ {
		for _, b := range []api.Book{{}, full, beyond} {
			for _, n := range []int64{maxAmount + 1, 1 << 41, 1 << 62, greatest, -1, -maxAmount, least} {
				for _, c := range calls() {
					if got, e := c.do(b, i, n); e != api.ErrRange || !empty(got) {
						t.Errorf("P4: %s(%v, %d, %d) = %v, %d; want ErrRange", c.name, b, i, n, got, e)
					}
				}
				if got, e := shelf.Cost(b, i, n); e != api.ErrRange || got != 0 {
					t.Errorf("P4: Cost(%v, %d, %d) = %d, %d; want ErrRange", b, i, n, got, e)
				}
			}
		}
	}
}

// TestAllElseStays looks at each part of the booking that is answered.
func TestAllElseStays(t *testing.T) {
	for _, c := range calls() {
		for k, b := range someBooks() {
			for i := 0; i <= maxItem; i++ {
				for _, n := range []int64{0, 1, 5, maxPrice} {
					got, e := c.do(b, i, n)
					if e != api.OK {
						if !empty(got) {
							t.Fatalf("P4: %s(booking %d, %d, %d) = %v beside error %d", c.name, k, i, n, got, e)
						}
						continue
					}
					if c.name == "Price" {
						got.Price[i] = b.Price[i]
					} else {
						got.Stock[i] = b.Stock[i]
					}
					if got.Stock != b.Stock || got.Price != b.Price || got.Purse != b.Purse {
						t.Fatalf("P13.1: %s(booking %d, %d, %d) changes more than its one number: %v", c.name, k, i, n, got)
					}
					if !slices.Equal(got.Orders, b.Orders) {
						t.Fatalf("P13.1: %s(booking %d, %d, %d) changes the orders: %v", c.name, k, i, n, got.Orders)
					}
				}
			}
		}
	}
}

// TestErrorsAreEmpty looks at what stands beside each error.
func TestErrorsAreEmpty(t *testing.T) {
	seen := map[string]int{}
	for _, c := range calls() {
		for _, b := range someBooks() {
			for _, i := range places() {
				for _, n := range amounts() {
					got, e := c.do(b, i, n)
					if e != api.OK && !empty(got) {
						t.Fatalf("P4: %s answers %v beside error %d", c.name, got, e)
					}
					seen[fmt.Sprint(c.name, " ", e)]++
				}
			}
		}
	}
	for _, name := range []string{"Add 0", "Add 4", "Add 7", "Take 0", "Take 4", "Take 11", "Price 0", "Price 4"} {
		if seen[name] == 0 {
			t.Errorf("P13.1: %s was never answered", name)
		}
	}
	if len(seen) != 8 {
		t.Errorf("P13.1: other errors were answered than the chapter names: %v", seen)
	}
}

// TestAddUndoesTake has bookings of any content, but for stock that is more than Add lets there be.
func TestAddUndoesTake(t *testing.T) {
	undone := 0
	for k, b := range someBooks() {
		for i := 0; i <= maxItem; i++ {
			for _, n := range append(amounts(), around(b, i)...) {
				less, e := shelf.Take(b, i, n)
				if e != api.OK || b.Stock[i] > maxAmount {
					continue
				}
				back, e := shelf.Add(less, i, n)
				if e != api.OK || !same(back, b) {
					t.Fatalf("P13.2: Take and Add of %d of item %d of booking %d = %v, %d; want %v", n, i, k, back, e, b)
				}
				undone++
			}
		}
	}
	if undone < 1000 {
		t.Errorf("P13.2: only %d were taken", undone)
	}
}

// TestAddUndoesTakeWritten takes of several items, and adds them in another order.
func TestAddUndoesTakeWritten(t *testing.T) {
	b := distinct()
	b.Stock[3] = maxAmount
	was := copied(b)
	var e api.Errno
	for i, n := range []int64{10, 0, 31, maxAmount, 1, 65, 2, 86} {
		if b, e = shelf.Take(b, i, n); e != api.OK {
			t.Fatalf("P13.1: Take of %d of item %d = %d", n, i, e)
		}
	}
	if want := [8]int64{0, 21, 1, 0, 53, 0, 74, 1}; b.Stock != want {
		t.Fatalf("P13.1: %v are left; want %v", b.Stock, want)
	}
	for i, n := range []int64{10, 0, 31, maxAmount, 1, 65, 2, 86} {
		if b, e = shelf.Add(b, i, n); e != api.OK {
			t.Fatalf("P13.2: Add of %d of item %d = %d", n, i, e)
		}
	}
	if !same(b, was) {
		t.Errorf("P13.2: Take and Add come to %v; want %v", b, was)
	}
}

// TestWays does many calls one behind the other, each upon what the one ahead answered.
func TestWays(t *testing.T) {
	for way := range 40 {
		random := rand.New(rand.NewSource(int64(1300 + way)))
		b := api.Book{Orders: manyOrders(way)}
		want := copied(b)
		for range 400 {
			c := calls()[random.Intn(3)]
			i := random.Intn(10) - 1
			n := oneOf(random, append(amounts(), around(b, i)...))
			if random.Intn(2) == 0 {
				n = random.Int63n(2000)
			}
			got, e := c.do(b, i, n)
			anew, no := c.anew(want, i, n)
			if e != no || !same(got, anew) {
				t.Fatalf("P13.1: way %d: %s(%v, %d, %d) = %v, %d; want %v, %d", way, c.name, b, i, n, got, e, anew, no)
			}
			if e == api.OK {
				b, want = got, anew
			}
		}
	}
}

// marked is an order that no booking has.
func marked() api.Order {
	return api.Order{Id: api.Id{Replica: -77, Seq: -78}, Buyer: -79, Item: -80, Qty: -81, Cost: -82, State: -83}
}

// roomy is distinct with n orders, and with spare room behind them that is filled with marks; all of it is answered beside it.
func roomy(n int) (api.Book, []api.Order) {
	b := distinct()
	all := manyOrders(n)
	for range 8 {
		all = append(all, marked())
	}
	b.Orders = all[:n]
	return b, all
}

// blot overwrites all orders of b, and puts one behind them.
func blot(b api.Book) {
	for k := range b.Orders {
		b.Orders[k] = marked()
	}
	l := append(b.Orders, marked(), marked())
	for k := range l[:cap(l)] {
		l[:cap(l)][k] = marked()
	}
}

// TestMemory changes what was answered behind the call, and what was handed in.
func TestMemory(t *testing.T) {
	for _, c := range calls() {
		for _, orders := range []int{0, 1, 2, 5, 8, 31, 32, 33} {
			for _, n := range []int64{0, 1, 3} {
				b, all := roomy(orders)
				was, before := copied(b), slices.Clone(all)
				want, _ := c.anew(b, 4, n)
				first, e := c.do(b, 4, n)
				second, no := c.do(b, 4, n)
				if e != api.OK || no != api.OK || !same(first, want) || !same(second, want) {
					t.Fatalf("P3: %s of %d with %d orders = %v, %d, and %v, %d; want %v", c.name, n, orders, first, e, second, no, want)
				}
				if !same(b, was) || !slices.Equal(all, before) {
					t.Fatalf("P2: %s of %d with %d orders changed what was handed in", c.name, n, orders)
				}
				blot(first)
				if !same(b, was) || !slices.Equal(all, before) {
					t.Fatalf("P2: what %s of %d with %d orders answers shares memory with what was handed in", c.name, n, orders)
				}
				if !same(second, want) {
					t.Fatalf("P2: two answers of %s of %d with %d orders share memory", c.name, n, orders)
				}
				for k := range all {
					all[k] = marked()
				}
				if !same(second, want) {
					t.Fatalf("P2: %s of %d with %d orders kept what was handed in", c.name, n, orders)
				}
			}
		}
	}
}

// TestRefusedKeep looks at what is handed in where an error is answered, and at calls that answer no booking.
func TestRefusedKeep(t *testing.T) {
	b, all := roomy(6)
	was, before := copied(b), slices.Clone(all)
	for _, i := range places() {
		for _, n := range append(amounts(), around(b, i)...) {
			for _, c := range calls() {
				got, _ := c.do(b, i, n)
				blot(got)
			}
			shelf.Cost(b, i, n)
			shelf.Has(b, i, n)
			shelf.Item(i)
		}
	}
	if !same(b, was) || !slices.Equal(all, before) {
		t.Error("P2: what was handed in is changed")
	}
}

// TestAgain does all calls twice, with others in between.
func TestAgain(t *testing.T) {
	type told struct {
		b    api.Book
		cost int64
		e    api.Errno
		has  bool
	}
	ask := func(b api.Book, i int, n int64) []told {
		var l []told
		for _, c := range calls() {
			got, e := c.do(b, i, n)
			l = append(l, told{b: got, e: e})
		}
		cost, e := shelf.Cost(b, i, n)
		return append(l, told{cost: cost, e: e, has: shelf.Has(b, i, n)})
	}
	var first [][]told
	for _, b := range someBooks() {
		for _, n := range amounts() {
			first = append(first, ask(b, 2, n))
		}
	}
	at := 0
	for _, b := range someBooks() {
		for _, n := range amounts() {
			if again := ask(b, 2, n); !reflect.DeepEqual(again, first[at]) {
				t.Fatalf("P3: the same calls answer %v, and then %v", first[at], again)
			}
			at++
		}
	}
}
