package table_test

import (
	"iter"
	"math"
	"math/rand/v2"
	"reflect"
	"slices"
	"strconv"
	"strings"
	"testing"

	"coroner/api"
	"coroner/encode"
	"coroner/history"
	"coroner/table"
)

// of is a history of some transactions.
func of(txns ...api.Txn) api.History { return api.History{Txns: txns} }

// done is a committed transaction.
func done(id int, ops ...api.Op) api.Txn { return api.Txn{ID: id, Ops: ops} }

// undone is an aborted transaction.
func undone(id int, ops ...api.Op) api.Txn { return api.Txn{ID: id, Aborted: true, Ops: ops} }

func appendOf(key, value int) api.Op { return api.Op{Key: key, Value: value} }

func readOf(key int, list ...int) api.Op { return api.Op{Read: true, Key: key, List: list} }

// parse is the history of a text.
func parse(t *testing.T, s string) api.History {
	t.Helper()
	h, e, at := history.Decode([]byte(s), api.MaxOps)
	if e != api.OK {
		t.Fatalf("%q: error %d at %d", s, int(e), at)
	}
	return h
}

// newTable is the table of a history that may be.
func newTable(t *testing.T, h api.History) *table.Table {
	t.Helper()
	x, e := table.New(h)
	if x == nil || e != api.OK {
		t.Fatalf("New is %v, error %d", x, int(e))
	}
	return x
}

// copyOf is a history that shares nothing with another one.
func copyOf(h api.History) api.History {
	var own api.History
	for _, x := range h.Txns {
		y := api.Txn{ID: x.ID, Aborted: x.Aborted}
		for _, o := range x.Ops {
			o.List = slices.Clone(o.List)
			y.Ops = append(y.Ops, o)
		}
		own.Txns = append(own.Txns, y)
	}
	return own
}

// what is what a history says, in the chapter's words: each answer is looked for in the whole history.
type what struct{ h api.History }

// each does something with all operations, in the order of the transactions' numbers, and then of their places.
func (w what) each(do func(x api.Txn, k int, o api.Op)) {
	last := math.MinInt
	for range w.h.Txns {
		var next *api.Txn
		for i := range w.h.Txns {
			x := &w.h.Txns[i]
			if x.ID > last && (next == nil || x.ID < next.ID) {
				next = x
			}
		}
		for k, o := range next.Ops {
			do(*next, k, o)
		}
		last = next.ID
	}
}

func (w what) ids() []int {
	var ids []int
	for _, x := range w.h.Txns {
		if !x.Aborted {
			ids = append(ids, x.ID)
		}
	}
	slices.Sort(ids)
	return ids
}

func (w what) keys() []int {
	var keys []int
	w.each(func(_ api.Txn, _ int, o api.Op) {
		if !slices.Contains(keys, o.Key) {
			keys = append(keys, o.Key)
		}
	})
	slices.Sort(keys)
	return keys
}

func (w what) writer(key, value int) (table.Write, bool) {
	var found table.Write
	is := false
	w.each(func(x api.Txn, k int, o api.Op) {
		if !o.Read && o.Key == key && o.Value == value {
			found, is = table.Write{Txn: x.ID, Op: k, Key: key, Value: value, Aborted: x.Aborted}, true
		}
	})
	return found, is
}

// appends are the values that a transaction appends to a key ahead of a place.
func (w what) appends(id, key, ahead int) []int {
	var values []int
	w.each(func(x api.Txn, k int, o api.Op) {
		if x.ID == id && !o.Read && o.Key == key && k < ahead {
			values = append(values, o.Value)
		}
	})
	return values
}

func (w what) reads(key int) []table.Read {
	var reads []table.Read
	w.each(func(x api.Txn, k int, o api.Op) {
		if !x.Aborted && o.Read && o.Key == key {
			reads = append(reads, table.Read{Txn: x.ID, Op: k, Key: key, List: o.List, Own: w.appends(x.ID, key, k)})
		}
	})
	return reads
}

func (w what) writes(key int) []table.Write {
	var writes []table.Write
	w.each(func(x api.Txn, k int, o api.Op) {
		if !x.Aborted && !o.Read && o.Key == key {
			writes = append(writes, table.Write{Txn: x.ID, Op: k, Key: key, Value: o.Value})
		}
	})
	return writes
}

// sameRead asks whether two reads are alike; no list and an empty one are.
func sameRead(a, b table.Read) bool {
	return a.Txn == b.Txn && a.Op == b.Op && a.Key == b.Key && slices.Equal(a.List, b.List) && slices.Equal(a.Own, b.Own)
}

func sameReads(a, b []table.Read) bool { return slices.EqualFunc(a, b, sameRead) }

// testLists holds what a table says of transactions and keys.
func testLists(t *testing.T, x *table.Table, w what, ids []int) {
	t.Helper()
	if got := x.IDs(); !slices.Equal(got, w.ids()) {
		t.Errorf("IDs are %v, not %v", got, w.ids())
	}
	for _, id := range ids {
		want := slices.Index(w.ids(), id)
		if k, is := x.Rank(id); k != max(want, 0) || is != (want >= 0) {
			t.Errorf("Rank of %d is %d, %t, not %d", id, k, is, want)
		}
	}
	if got := x.Keys(); !slices.Equal(got, w.keys()) {
		t.Errorf("Keys are %v, not %v", got, w.keys())
	}
}

// testKey holds what a table says of a key, of some transactions and values.
func testKey(t *testing.T, x *table.Table, w what, key int, ids, values []int) {
	t.Helper()
	for _, v := range values {
		want, has := w.writer(key, v)
		if got, is := x.Writer(key, v); got != want || is != has {
			t.Errorf("Writer of %d, %d is %+v, %t, not %+v, %t", key, v, got, is, want, has)
		}
	}
	for _, id := range ids {
		if got, want := x.Appends(id, key), w.appends(id, key, math.MaxInt); !slices.Equal(got, want) {
			t.Errorf("Appends of %d to %d are %v, not %v", id, key, got, want)
		}
	}
	if got, want := slices.Collect(x.Reads(key)), w.reads(key); !sameReads(got, want) {
		t.Errorf("Reads of %d are %+v, not %+v", key, got, want)
	}
	if got, want := slices.Collect(x.Writes(key)), w.writes(key); !slices.Equal(got, want) {
		t.Errorf("Writes of %d are %+v, not %+v", key, got, want)
	}
}

// strangers are numbers that a small history does not have.
func strangers() []int {
	return []int{-1, 1000, math.MinInt, math.MaxInt, api.MaxNumber + 1, -1 << 32, 1 << 32}
}

// testTable holds all that a table says against the history that it was made of.
func testTable(t *testing.T, x *table.Table, h api.History) {
	t.Helper()
	w := what{h}
	ids, keys, values := strangers(), strangers(), strangers()
	for _, n := range h.Txns {
		ids = append(ids, n.ID)
		for _, o := range n.Ops {
			keys = append(keys, o.Key)
			values = append(append(values, o.Value), o.List...)
		}
	}
	ids, keys, values = unique(ids), unique(keys), unique(values)
	testLists(t, x, w, ids)
	for _, key := range keys {
		testKey(t, x, w, key, ids, values)
	}
	if t.Failed() {
		t.Fatalf("of %+v", h)
	}
}

func unique(l []int) []int {
	slices.Sort(l)
	return slices.Compact(l)
}

// eachList goes through all lists of some things, up to a length.
func eachList[T any](things []T, most int, do func(l []T)) {
	var grow func(l []T)
	grow = func(l []T) {
		do(l)
		if len(l) < most {
			for _, x := range things {
				grow(append(slices.Clone(l), x))
			}
		}
	}
	grow(nil)
}

// someHistory is a history that may be, of few keys and values, with transactions in any order.
func someHistory(r *rand.Rand, txns, ops int) api.History {
	used := map[[2]int]bool{}
	var h api.History
	for _, id := range r.Perm(txns * 2)[:txns] {
		x := api.Txn{ID: id, Aborted: r.IntN(3) == 0}
		for range r.IntN(ops + 1) {
			key, value := r.IntN(4), r.IntN(txns*ops+2)
			if r.IntN(2) == 0 {
				x.Ops = append(x.Ops, readOf(key, r.Perm(5)[:r.IntN(5)]...))
			} else if !used[[2]int{key, value}] {
				used[[2]int{key, value}] = true
				x.Ops = append(x.Ops, appendOf(key, value))
			}
		}
		h.Txns = append(h.Txns, x)
	}
	return h
}

// P12.1, P12.2, P12.3: a history that has something of all.
func TestTable(t *testing.T) {
	h := parse(t, "t 9 c\na 1 5\nr 1 4 5\na 1 6\nr 1 4 5 6\nt 3 a\na 1 4\na 2 1\nr 1\nr 4 1\nt 5 c\nr 1 4\na 3 7\n")
	x := newTable(t, h)
	testTable(t, x, h)
	if l := x.IDs(); !slices.Equal(l, []int{5, 9}) {
		t.Error(l)
	}
	if l := x.Keys(); !slices.Equal(l, []int{1, 2, 3, 4}) {
		t.Error(l)
	}
	for _, c := range []struct {
		id, k int
		is    bool
	}{{5, 0, true}, {9, 1, true}, {3, 0, false}, {0, 0, false}, {10, 0, false}, {7, 0, false}, {-5, 0, false}} {
		if k, is := x.Rank(c.id); k != c.k || is != c.is {
			t.Errorf("%+v: %d, %t", c, k, is)
		}
	}
	if w, is := x.Writer(1, 4); w != (table.Write{Txn: 3, Op: 0, Key: 1, Value: 4, Aborted: true}) || !is {
		t.Error(w, is)
	}
	if w, is := x.Writer(3, 7); w != (table.Write{Txn: 5, Op: 1, Key: 3, Value: 7}) || !is {
		t.Error(w, is)
	}
	for _, c := range [][2]int{{1, 7}, {3, 4}, {4, 1}, {7, 3}, {0, 0}, {5, 1}} {
		if w, is := x.Writer(c[0], c[1]); w != (table.Write{}) || is {
			t.Error(c, w, is)
		}
	}
	reads := []table.Read{{Txn: 5, Op: 0, Key: 1, List: []int{4}}, {Txn: 9, Op: 1, Key: 1, List: []int{4, 5}, Own: []int{5}}, {Txn: 9, Op: 3, Key: 1, List: []int{4, 5, 6}, Own: []int{5, 6}}}
	if l := slices.Collect(x.Reads(1)); !sameReads(l, reads) {
		t.Error(l)
	}
	if l := slices.Collect(x.Writes(1)); !slices.Equal(l, []table.Write{{Txn: 9, Op: 0, Key: 1, Value: 5}, {Txn: 9, Op: 2, Key: 1, Value: 6}}) {
		t.Error(l)
	}
	if n := len(slices.Collect(x.Writes(2))) + len(slices.Collect(x.Reads(4))) + len(slices.Collect(x.Reads(3))); n != 0 {
		t.Error(n, "of an aborted transaction, or of another kind")
	}
}

// P12.1: the table of no transactions, and of such as did nothing.
func TestEmpty(t *testing.T) {
	for _, h := range []api.History{{}, {Txns: []api.Txn{}}, of(done(0)), of(undone(0)), of(done(7), undone(3), done(2), done(api.MaxNumber))} {
		testTable(t, newTable(t, h), h)
	}
	if l := newTable(t, of(done(7), undone(3), done(2))).IDs(); !slices.Equal(l, []int{2, 7}) {
		t.Error(l)
	}
}

// testError holds that no table is made of a history, and why.
func testError(t *testing.T, h api.History, want api.Errno) {
	t.Helper()
	if x, e := table.New(h); x != nil || e != want || e != encode.Check(h) {
		t.Errorf("New is %v, error %d, not %d", x, int(e), int(want))
	}
}

// manyOps is a transaction of as many operations.
func manyOps(n int) api.Txn { return api.Txn{Ops: slices.Repeat([]api.Op{readOf(0)}, n)} }

// manyTxns is a history of as many transactions.
func manyTxns(n int) api.History {
	var h api.History
	for id := range n {
		h.Txns = append(h.Txns, done(n-id))
	}
	return h
}

// P12.1: the errors of encode.Check, in their order.
func TestErrors(t *testing.T) {
	for _, n := range []int{-1, api.MaxNumber + 1, math.MinInt, math.MaxInt} {
		testError(t, of(done(n)), api.ErrArg)
		testError(t, of(done(1), undone(n)), api.ErrArg)
		testError(t, of(done(1, appendOf(n, 0))), api.ErrArg)
		testError(t, of(undone(1, appendOf(0, n))), api.ErrArg)
		testError(t, of(done(1, readOf(n))), api.ErrArg)
		testError(t, of(undone(1, readOf(0, 1, n))), api.ErrArg)
	}
	testError(t, of(done(1, api.Op{Read: true, Value: 1})), api.ErrArg)
	testError(t, of(done(1, api.Op{Value: 1, List: []int{1}})), api.ErrArg)
	testError(t, of(done(1), undone(1)), api.ErrTwin)
	testError(t, of(done(1), done(2), done(1, appendOf(-1, -1))), api.ErrTwin)
	testError(t, of(done(1, appendOf(3, 4)), undone(2, appendOf(3, 4))), api.ErrValue)
	testError(t, of(undone(1, appendOf(3, 4), appendOf(3, 4)), done(1)), api.ErrValue)
	testError(t, of(done(1, appendOf(3, 4), appendOf(3, 4), appendOf(-1, 0))), api.ErrValue)
	testError(t, of(done(-1), done(1, appendOf(3, 4), appendOf(3, 4))), api.ErrArg)
	testError(t, manyTxns(api.MaxTxns+1), api.ErrSize)
	testError(t, of(manyOps(api.MaxOps+1)), api.ErrSize)
	testError(t, of(done(-1), done(5), done(5), manyOps(api.MaxOps+1)), api.ErrSize)
	whole := "t 1 c\nr 0" + strings.Repeat(" 1", (api.MaxBytes-10)/2) + "\n"
	h := parse(t, whole)
	h.Txns[0].Ops[0].List[0] = 10
	testError(t, h, api.ErrSize)
}

// P12.1 to P12.3: histories at the limits.
func TestLimits(t *testing.T) {
	h := manyTxns(api.MaxTxns)
	x := newTable(t, h)
	testLists(t, x, what{h}, []int{0, 1, 2, 512, 1023, 1024, 1025})
	h = of(manyOps(api.MaxOps))
	x = newTable(t, h)
	n := 0
	for r := range x.Reads(0) {
		if !sameRead(r, table.Read{Op: n}) {
			t.Fatal(n, r)
		}
		n++
	}
	if n != api.MaxOps || !slices.Equal(x.Keys(), []int{0}) {
		t.Error(n, x.Keys())
	}
	h = parse(t, "t 1 c\nr 0"+strings.Repeat(" 1", (api.MaxBytes-10)/2)+"\n")
	for r := range newTable(t, h).Reads(0) {
		if !slices.Equal(r.List, h.Txns[0].Ops[0].List) {
			t.Error(len(r.List))
		}
	}
	const top = api.MaxNumber
	h = of(done(top, appendOf(top, top), readOf(top, top), appendOf(0, 0), readOf(0, 0)), undone(0, appendOf(0, top), appendOf(top, 0)))
	testTable(t, newTable(t, h), h)
}

// P12.3: a read has as many values of its own as its transaction appended to just that key ahead of it.
func TestOwn(t *testing.T) {
	var ops []api.Op
	for v := range 500 {
		ops = append(ops, readOf(1), appendOf(2, v), appendOf(1, 499-v), readOf(1, v))
	}
	h := of(done(8, readOf(1), appendOf(1, 1000)), done(4, ops...), done(2, appendOf(1, 1001)))
	x := newTable(t, h)
	own := []int{}
	k := 0
	for r := range x.Reads(1) {
		if r.Txn == 8 {
			break
		}
		want := table.Read{Txn: 4, Op: k / 2 * 4, Key: 1, Own: own}
		if k%2 == 1 {
			own = append(own, 499-k/2)
			want = table.Read{Txn: 4, Op: k/2*4 + 3, Key: 1, List: []int{k / 2}, Own: own}
		}
		if !sameRead(r, want) {
			t.Fatalf("%d: %+v, not %+v", k, r, want)
		}
		k++
	}
	if k != 1000 || !slices.Equal(x.Appends(4, 1), own) || len(slices.Collect(x.Reads(1))) != 1001 {
		t.Error(k, x.Appends(4, 1))
	}
}

// P12.1 to P12.3: all short histories of three transactions, of which one is aborted, in any order.
func TestAllShort(t *testing.T) {
	kinds := []api.Op{appendOf(0, 1), appendOf(0, 2), appendOf(1, 1), readOf(0, 2, 1), readOf(1), readOf(0)}
	n := 0
	eachList(kinds, 4, func(l []api.Op) {
		for cut := range len(l) + 1 {
			n++
			h := of(done(6, l[:cut]...), undone(5, l[cut:]...), done(1, readOf(0, 3), appendOf(0, 0)))
			rotate := n % 3
			h.Txns = slices.Concat(h.Txns[rotate:], h.Txns[:rotate])
			h.Txns[n%2].ID += 4
			testOrError(t, h)
		}
	})
}

// testOrError holds the table of a history, or the error in its place.
func testOrError(t *testing.T, h api.History) {
	t.Helper()
	if e := encode.Check(h); e != api.OK {
		testError(t, h, e)
		return
	}
	testTable(t, newTable(t, h), h)
}

// P12.1 to P12.3: long histories.
func TestLong(t *testing.T) {
	r := rand.New(rand.NewPCG(12, 1))
	for range 150 {
		h := someHistory(r, 1+r.IntN(8), 1+r.IntN(8))
		testTable(t, newTable(t, h), h)
	}
}

// They stand in the order of numbers, and not of texts, nor of how they were handed in.
func TestOrder(t *testing.T) {
	r := rand.New(rand.NewPCG(12, 2))
	ids := []int{0, 1, 2, 9, 10, 11, 99, 100, 255, 256, 65536, 1 << 30, api.MaxNumber}
	for range 50 {
		var h api.History
		for _, k := range r.Perm(len(ids)) {
			id := ids[k]
			h.Txns = append(h.Txns, done(id, readOf(1), appendOf(1, id), appendOf(id, 5), readOf(1)))
		}
		x := newTable(t, h)
		if l := x.IDs(); !slices.Equal(l, ids) || !slices.Equal(x.Keys(), ids) {
			t.Fatal(l, x.Keys())
		}
		k := 0
		for w := range x.Writes(1) {
			if w.Op == 1 && w != (table.Write{Txn: ids[k], Op: 1, Key: 1, Value: ids[k]}) {
				t.Fatal(k, w)
			}
			if w.Op == 1 {
				k++
			}
		}
		if k != len(ids) {
			t.Error(k)
		}
		testTable(t, x, h)
	}
}

// testWanted holds that what goes through things stops where no more are wanted, and goes through them again, also while it goes through them.
func testWanted[T any](t *testing.T, all iter.Seq[T], want []T, same func(a, b T) bool) {
	t.Helper()
	for most := 1; most <= len(want); most++ {
		var got []T
		all(func(x T) bool {
			got = append(got, x)
			return len(got) < most
		})
		if !slices.EqualFunc(got, want[:most], same) {
			t.Errorf("the first %d are %+v, not %+v", most, got, want[:most])
		}
	}
	n := 0
	for range all {
		if got := slices.Collect(all); !slices.EqualFunc(got, want, same) {
			t.Errorf("within: %+v, not %+v", got, want)
		}
		n++
	}
	if n != len(want) {
		t.Errorf("%d, not %d", n, len(want))
	}
}

// P12.3, R3: as long as it is wanted, and again and again.
func TestWanted(t *testing.T) {
	h := parse(t, "t 7 c\nr 1 3\na 1 3\nr 1\na 2 9\nr 1 3 3\nt 4 c\na 1 1\na 1 2\nr 1 2 1\nt 5 a\na 1 4\nr 1\n")
	x := newTable(t, h)
	w := what{h}
	for _, key := range []int{1, 2, 3, -1} {
		testWanted(t, x.Reads(key), w.reads(key), sameRead)
		testWanted(t, x.Writes(key), w.writes(key), func(a, b table.Write) bool { return a == b })
	}
}

// P12.4: tables that are not there, and such as no call made.
func TestNone(t *testing.T) {
	for _, x := range []*table.Table{nil, {}, new(table.Table)} {
		for _, n := range append(strangers(), 0, 1) {
			if k, is := x.Rank(n); k != 0 || is {
				t.Error(n, k, is)
			}
			if w, is := x.Writer(n, n); w != (table.Write{}) || is {
				t.Error(n, w, is)
			}
			if l := x.Appends(n, n); len(l) != 0 {
				t.Error(n, l)
			}
			reads, writes := x.Reads(n), x.Writes(n)
			if reads == nil || writes == nil || len(slices.Collect(reads)) != 0 || len(slices.Collect(writes)) != 0 {
				t.Error(n, "something is gone through")
			}
		}
		if len(x.IDs()) != 0 || len(x.Keys()) != 0 {
			t.Error(x.IDs(), x.Keys())
		}
	}
}

// spare is a list with room behind it, in which marks stand.
func spare(l ...int) []int {
	return append(slices.Clone(l), -7, -8, -9)[:len(l)]
}

// P12.1, R3: the history is not changed, nor what stands behind its lists.
func TestHistoryStays(t *testing.T) {
	long := spare(4, 2, 4)
	ops := []api.Op{readOf(1, long...), appendOf(1, 5), readOf(1, long[:1]...), appendOf(9, 9)}
	ops[0].List, ops[2].List = long, long[:1]
	txns := []api.Txn{done(3, ops[:3]...), undone(2, appendOf(1, 6)), done(1, readOf(1, 4)), done(-7, appendOf(-7, -7))}
	txns[0].Ops = ops[:3]
	h := api.History{Txns: txns[:3]}
	before := copyOf(api.History{Txns: txns})
	x := newTable(t, h)
	testTable(t, x, h)
	if !reflect.DeepEqual(copyOf(api.History{Txns: txns}), before) || !slices.Equal(long[:6], []int{4, 2, 4, -7, -8, -9}) || ops[3].Key != 9 {
		t.Error("what was handed in is changed", txns, long[:6])
	}
}

// R3: the table keeps none of the history's lists.
func TestHistoryIsNotKept(t *testing.T) {
	h := parse(t, "t 7 c\na 1 3\nr 1 3\na 1 8\nr 1 3 8\nt 4 a\na 1 1\nt 5 c\nr 2 7\n")
	want := copyOf(h)
	x := newTable(t, h)
	for i := range h.Txns {
		for k := range h.Txns[i].Ops {
			o := &h.Txns[i].Ops[k]
			for n := range o.List {
				o.List[n] = 77
			}
			*o = appendOf(77, 77)
		}
		h.Txns[i] = undone(77)
	}
	testTable(t, x, want)
}

// R3: what is answered is nobody else's: what is done to it reaches neither the table nor another answer.
func TestAnswersAreApart(t *testing.T) {
	h := parse(t, "t 7 c\na 1 3\na 1 4\na 1 5\nr 1 3 4 5\na 1 6\na 2 1\nr 1 3 4\nt 9 c\nr 1 3\n")
	want := copyOf(h)
	x := newTable(t, h)
	reads := slices.Collect(x.Reads(1))
	spoil := func(lists ...[]int) {
		for _, l := range lists {
			for k := range l {
				l[k] = 77
			}
			for k := range l[len(l):cap(l)] {
				l[:cap(l)][len(l)+k] = 77
			}
		}
	}
	spoil(x.IDs(), x.Keys(), x.Appends(7, 1), x.Appends(7, 2), x.Appends(9, 1))
	for r := range x.Reads(1) {
		spoil(r.List, r.Own)
	}
	testTable(t, x, want)
	if !sameReads(reads, what{want}.reads(1)) || !reflect.DeepEqual(copyOf(h), want) {
		t.Error("what is done to an answer reaches another one", reads, h)
	}
	spoil(reads[0].List)
	if !slices.Equal(reads[0].Own, []int{3, 4, 5}) || !slices.Equal(reads[1].Own, []int{3, 4, 5, 6}) || !slices.Equal(reads[1].List, []int{3, 4}) {
		t.Error("lists of one answer are one", reads)
	}
}

// R4: two tables have nothing in common; what one was asked changes nothing that it says.
func TestApart(t *testing.T) {
	r := rand.New(rand.NewPCG(12, 3))
	for range 30 {
		h, g := someHistory(r, 4, 6), someHistory(r, 4, 6)
		x, y := newTable(t, h), newTable(t, g)
		testTable(t, x, h)
		testTable(t, y, g)
		testTable(t, x, h)
		z := *x
		testTable(t, &z, h)
	}
}

// R4: in which order the transactions stand in the history does not count.
func TestAnyOrder(t *testing.T) {
	r := rand.New(rand.NewPCG(12, 4))
	for range 50 {
		h := someHistory(r, 5, 5)
		other := copyOf(h)
		r.Shuffle(len(other.Txns), func(i, k int) { other.Txns[i], other.Txns[k] = other.Txns[k], other.Txns[i] })
		x, y := newTable(t, h), newTable(t, other)
		if say(x) != say(y) {
			t.Fatalf("%s\n%s", say(x), say(y))
		}
	}
}

// say is what a table says of its keys, in words.
func say(x *table.Table) string {
	var s strings.Builder
	for _, key := range x.Keys() {
		s.WriteString("key " + strconv.Itoa(key) + ":")
		for r := range x.Reads(key) {
			s.WriteString(" r" + strconv.Itoa(r.Txn) + "." + strconv.Itoa(r.Op) + ":" + strconv.Itoa(len(r.List)) + "," + strconv.Itoa(len(r.Own)))
		}
		for w := range x.Writes(key) {
			s.WriteString(" w" + strconv.Itoa(w.Txn) + "." + strconv.Itoa(w.Op) + ":" + strconv.Itoa(w.Value))
		}
	}
	return s.String()
}
