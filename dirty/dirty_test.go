package dirty_test

import (
	"math"
	"math/rand/v2"
	"reflect"
	"slices"
	"testing"

	"coroner/api"
	"coroner/dirty"
	"coroner/history"
	"coroner/reads"
	"coroner/table"
)

// of is a history of some transactions.
func of(txns ...api.Txn) api.History { return api.History{Txns: txns} }

// done is a committed transaction.
func done(id int, ops ...api.Op) api.Txn { return api.Txn{ID: id, Ops: ops} }

// undone is an aborted transaction.
func undone(id int, ops ...api.Op) api.Txn { return api.Txn{ID: id, Aborted: true, Ops: ops} }

func appendOf(key, value int) api.Op { return api.Op{Key: key, Value: value} }

func readOf(key int, list ...int) api.Op { return api.Op{Read: true, Key: key, List: list} }

// parse is the history of a text.
func parse(t *testing.T, s string) api.History {
	t.Helper()
	h, e, at := history.Decode([]byte(s), api.MaxOps)
	if e != api.OK {
		t.Fatalf("%q: error %d at %d", s, int(e), at)
	}
	return h
}

// newTable is the table of a history that may be.
func newTable(t *testing.T, h api.History) *table.Table {
	t.Helper()
	x, e := table.New(h)
	if x == nil || e != api.OK {
		t.Fatalf("New is %v, error %d", x, int(e))
	}
	return x
}

// copyOf is a history that shares nothing with another one.
func copyOf(h api.History) api.History {
	var own api.History
	for _, x := range h.Txns {
		y := api.Txn{ID: x.ID, Aborted: x.Aborted}
		for _, o := range x.Ops {
			o.List = slices.Clone(o.List)
			y.Ops = append(y.Ops, o)
		}
		own.Txns = append(own.Txns, y)
	}
	return own
}

// spare is a list with room behind it, in which marks stand.
func spare(l ...int) []int {
	return append(slices.Clone(l), -7, -8, -9)[:len(l)]
}

// eachList goes through all lists of some things, up to a length.
func eachList[T any](things []T, most int, do func(l []T)) {
	var grow func(l []T)
	grow = func(l []T) {
		do(l)
		if len(l) < most {
			for _, x := range things {
				grow(append(slices.Clone(l), x))
			}
		}
	}
	grow(nil)
}

// answer is what one of the three questions is answered with.
type answer struct {
	value, id int
	is        bool
}

// question is one of the three.
type question struct {
	name string
	kind int
	ask  func(*table.Table, table.Read) (int, int, bool)
	want func(what, table.Read) answer
}

func questions() []question {
	return []question{
		{"Torn", api.Torn, dirty.Torn, what.torn},
		{"Aborted", api.G1a, dirty.Aborted, what.aborted},
		{"Middle", api.G1b, dirty.Middle, what.middle},
	}
}

// what is what a history says, in the chapter's words: each answer is looked for in the whole history.
type what struct{ h api.History }

// txn is the transaction that appends a value to a key.
func (w what) txn(key, value int) (api.Txn, bool) {
	for _, x := range w.h.Txns {
		if slices.Contains(appendsOf(x, key), value) {
			return x, true
		}
	}
	return api.Txn{}, false
}

// appendsOf are the values that a transaction appends to a key, in order.
func appendsOf(x api.Txn, key int) []int {
	var l []int
	for _, o := range x.Ops {
		if !o.Read && o.Key == key {
			l = append(l, o.Value)
		}
	}
	return l
}

// front is a read's list without as many values at the end as it has of its own.
func front(r table.Read) []int {
	var l []int
	for k, v := range r.List {
		if len(r.List)-k > len(r.Own) {
			l = append(l, v)
		}
	}
	return l
}

func (w what) aborted(r table.Read) answer {
	for _, v := range front(r) {
		if x, is := w.txn(r.Key, v); is && x.Aborted {
			return answer{v, x.ID, true}
		}
	}
	return answer{}
}

func (w what) middle(r table.Read) answer {
	l := front(r)
	if len(l) == 0 {
		return answer{}
	}
	last := l[len(l)-1]
	x, is := w.txn(r.Key, last)
	if !is || x.Aborted {
		return answer{}
	}
	appends := appendsOf(x, r.Key)
	for _, v := range appends[slices.Index(appends, last)+1:] {
		if v != last {
			return answer{last, x.ID, true}
		}
	}
	return answer{}
}

// torn asks, for each value in the front, whether its transaction was asked already, and looks for that one's values in the whole front again.
func (w what) torn(r table.Read) answer {
	var asked []int
	for _, v := range front(r) {
		x, is := w.txn(r.Key, v)
		if !is || x.Aborted || slices.Contains(asked, x.ID) {
			continue
		}
		asked = append(asked, x.ID)
		left := appendsOf(x, r.Key)
		for _, u := range front(r) {
			if y, is := w.txn(r.Key, u); !is || y.ID != x.ID {
				continue
			}
			if len(left) == 0 || left[0] != u {
				return answer{u, x.ID, true}
			}
			left = left[1:]
		}
	}
	return answer{}
}

// all are the reads of committed transactions, by the transactions' numbers, and then their places.
func (w what) all() []table.Read {
	txns := slices.Clone(w.h.Txns)
	slices.SortFunc(txns, func(a, b api.Txn) int { return a.ID - b.ID })
	var l []table.Read
	for _, x := range txns {
		for k, o := range x.Ops {
			if o.Read && !x.Aborted {
				l = append(l, table.Read{Txn: x.ID, Op: k, Key: o.Key, List: o.List, Own: appendsOf(api.Txn{Ops: x.Ops[:k]}, o.Key)})
			}
		}
	}
	return l
}

// sound asks whether a read is sound: chapter 13 says when.
func (w what) sound(r table.Read) bool {
	for k, v := range r.List {
		if _, is := w.txn(r.Key, v); !is || slices.Contains(r.List[:k], v) {
			return false
		}
	}
	ahead := front(r)
	for _, v := range ahead {
		if x, _ := w.txn(r.Key, v); x.ID == r.Txn {
			return false
		}
	}
	return slices.Equal(r.List[len(ahead):], r.Own)
}

// find are the first sound reads of which the three questions are true.
func (w what) find() []api.Finding {
	var l []api.Finding
	for _, q := range questions() {
		for _, r := range w.all() {
			if a := q.want(w, r); a.is && w.sound(r) {
				l = append(l, api.Finding{Kind: q.kind, Txn: r.Txn, Op: r.Op, Key: r.Key, Value: a.value, Other: a.id})
				break
			}
		}
	}
	return l
}

// testRead holds what the three questions are answered with of a read.
func testRead(t *testing.T, x *table.Table, w what, r table.Read) {
	t.Helper()
	for _, q := range questions() {
		value, id, is := q.ask(x, r)
		if got, want := (answer{value, id, is}), q.want(w, r); got != want {
			t.Errorf("%s of %+v is %+v, not %+v", q.name, r, got, want)
		}
	}
}

// sameFinding asks whether two findings are alike; none of them has a cycle.
func sameFinding(f, g api.Finding) bool {
	return f.Kind == g.Kind && f.Txn == g.Txn && f.Op == g.Op && f.Key == g.Key && f.Value == g.Value && f.Other == g.Other && len(f.Cycle)+len(g.Cycle) == 0
}

// testFind holds what is found.
func testFind(t *testing.T, x *table.Table, want []api.Finding) {
	t.Helper()
	if l := dirty.Find(x); !slices.EqualFunc(l, want, sameFinding) {
		t.Errorf("Find is %+v, not %+v", l, want)
	}
}

// testAll holds all that is said of a history's reads.
func testAll(t *testing.T, h api.History) {
	t.Helper()
	x, w := newTable(t, h), what{h}
	for _, r := range w.all() {
		testRead(t, x, w, r)
	}
	testFind(t, x, w.find())
	if t.Failed() {
		t.Fatalf("of %+v", h)
	}
}

// someHistory has reads of which many are sound: they have what others append to the key, often nearly in its order, and then what is their own.
func someHistory(r *rand.Rand, txns, ops int) api.History {
	var h api.History
	values := map[int][]int{}
	for _, id := range r.Perm(txns * 3)[:txns] {
		x := api.Txn{ID: id, Aborted: r.IntN(4) == 0}
		for k := range r.IntN(ops + 1) {
			key, value := r.IntN(2), id*100+(37*k)%100
			if r.IntN(2) == 0 {
				x.Ops = append(x.Ops, readOf(key))
				continue
			}
			x.Ops = append(x.Ops, appendOf(key, value))
			values[key] = append(values[key], value)
		}
		h.Txns = append(h.Txns, x)
	}
	for _, x := range h.Txns {
		for k := range x.Ops {
			if o := &x.Ops[k]; o.Read {
				o.List = someList(r, values[o.Key], appendsOf(x, o.Key), appendsOf(api.Txn{Ops: x.Ops[:k]}, o.Key))
			}
		}
	}
	return h
}

// someList is of some values; mostly not of a transaction's later ones, and with its earlier ones at the end.
func someList(r *rand.Rand, values, all, own []int) []int {
	l := slices.Clone(values)
	if r.IntN(8) > 0 {
		l = slices.DeleteFunc(l, func(v int) bool { return slices.Contains(all, v) })
	}
	for range r.IntN(3) {
		if len(l) > 1 {
			k, n := r.IntN(len(l)), r.IntN(len(l))
			l[k], l[n] = l[n], l[k]
		}
	}
	if len(l) > 0 && r.IntN(3) == 0 {
		k := r.IntN(len(l))
		l = slices.Delete(l, k, k+1)
	}
	return append(l[:r.IntN(len(l)+1)], own...)
}

// one is what the cases are asked of. To the key 0 append: 1 the values 1, 2, 3, and 4 the values 6, 7; 2, which was aborted, 4, 9, and 3, which was, too, 8; 5 the value 5 ahead of its read, and 0 behind it. Some of them append the same values to the key 1, in another order.
func one() api.History {
	return of(
		done(1, appendOf(0, 1), appendOf(1, 2), appendOf(0, 2), appendOf(1, 1), appendOf(0, 3)),
		undone(2, appendOf(0, 4), appendOf(0, 9), appendOf(1, 6)),
		undone(3, appendOf(0, 8)),
		done(4, appendOf(0, 6), readOf(0, 6), appendOf(0, 7), appendOf(1, 4)),
		done(5, appendOf(0, 5), readOf(0), appendOf(0, 0)),
	)
}

// testCases holds what one of the three questions is answered with of some lists.
func testCases(t *testing.T, ask func(*table.Table, table.Read) (int, int, bool), cases []testCase) {
	t.Helper()
	x, w := newTable(t, one()), what{one()}
	for _, c := range cases {
		r := table.Read{Txn: 5, Op: 1, Key: 0, List: c.list, Own: c.own}
		value, id, is := ask(x, r)
		if got := (answer{value, id, is}); got != c.want {
			t.Errorf("%v, %v: %+v, not %+v", c.list, c.own, got, c.want)
		}
		testRead(t, x, w, r)
	}
}

type testCase struct {
	want      answer
	list, own []int
}

// P14.1: the chapter's examples.
func TestExamples(t *testing.T) {
	h := parse(t, "t 2 c\na 0 5\na 0 6\nt 3 c\nr 0 5\nr 0 6 5\n")
	x := newTable(t, h)
	if v, id, is := dirty.Middle(x, table.Read{Txn: 3, Op: 0, List: []int{5}}); v != 5 || id != 2 || !is {
		t.Error(v, id, is)
	}
	if v, id, is := dirty.Torn(x, table.Read{Txn: 3, Op: 1, List: []int{6, 5}}); v != 6 || id != 2 || !is {
		t.Error(v, id, is)
	}
	testAll(t, h)
}

// P14.1: the first value of an aborted transaction.
func TestAborted(t *testing.T) {
	testCases(t, dirty.Aborted, []testCase{
		{answer{}, nil, nil},
		{answer{}, []int{1, 2, 3, 6, 7}, nil},
		{answer{4, 2, true}, []int{4}, nil},
		{answer{4, 2, true}, []int{1, 4}, nil},
		{answer{8, 3, true}, []int{1, 8, 4, 2}, nil},
		{answer{9, 2, true}, []int{9, 8, 4}, nil},
		{answer{4, 2, true}, []int{4, 5}, []int{5}},
		{answer{4, 2, true}, []int{77, 4, 8}, nil},   // of what nobody appends there is no transaction
		{answer{8, 3, true}, []int{1, 1, 8, 8}, nil}, // also of a read that is not sound
		{answer{}, []int{5, 4}, []int{4}},            // a tail is no front
		{answer{}, []int{4, 8, 9}, []int{1, 2, 3}},
		{answer{}, []int{4, 8}, []int{1, 2, 3}}, // there is no front
		{answer{4, 2, true}, []int{4, 8, 9}, []int{1, 2}},
	})
}

// P14.1: the last value, and what is behind it.
func TestMiddle(t *testing.T) {
	testCases(t, dirty.Middle, []testCase{
		{answer{}, nil, nil},
		{answer{1, 1, true}, []int{1}, nil},
		{answer{2, 1, true}, []int{1, 2}, nil},
		{answer{2, 1, true}, []int{2}, nil},
		{answer{}, []int{1, 2, 3}, nil},
		{answer{}, []int{3}, nil}, // torn, but at its end
		{answer{}, []int{1, 3}, nil},
		{answer{}, []int{1, 2, 7}, nil}, // only the last value counts
		{answer{6, 4, true}, []int{1, 2, 6}, nil},
		{answer{6, 4, true}, []int{7, 6}, nil},
		{answer{}, []int{6, 7}, nil},
		{answer{}, []int{1, 4}, nil}, // 2 was aborted, and has 9 behind it
		{answer{}, []int{6, 77}, nil},
		{answer{}, []int{77}, nil},
		{answer{1, 1, true}, []int{1, 5}, []int{5}},
		{answer{}, []int{3, 5}, []int{5}},
		{answer{}, []int{5}, []int{5}},
		{answer{}, []int{1}, []int{5, 6}},
		{answer{6, 4, true}, []int{6, 1, 2}, []int{1, 2}},
		{answer{5, 5, true}, []int{1, 5}, nil}, // the read's own transaction is one, too
		{answer{}, []int{5, 0}, nil},
		{answer{1, 1, true}, []int{1, 1}, nil},
	})
}

// P14.1: the first transaction whose values are not in order, and not the first value that is not.
func TestTorn(t *testing.T) {
	testCases(t, dirty.Torn, []testCase{
		{answer{}, nil, nil},
		{answer{}, []int{1}, nil},
		{answer{}, []int{1, 2}, nil},
		{answer{}, []int{1, 2, 3}, nil},
		{answer{2, 1, true}, []int{2}, nil},
		{answer{3, 1, true}, []int{3, 1, 2}, nil},
		{answer{3, 1, true}, []int{1, 3}, nil},
		{answer{3, 1, true}, []int{1, 3, 2}, nil},
		{answer{2, 1, true}, []int{2, 1, 3}, nil},
		{answer{}, []int{1, 6, 2, 7, 3}, nil}, // others may stand between
		{answer{}, []int{6, 1, 7}, nil},
		{answer{7, 4, true}, []int{7}, nil},
		{answer{7, 4, true}, []int{1, 7, 2, 6}, nil},
		{answer{3, 1, true}, []int{1, 7, 6, 3}, nil}, // 1 comes there first, though 7 is the first that is wrong
		{answer{7, 4, true}, []int{7, 1, 3}, nil},
		{answer{7, 4, true}, []int{7, 3}, nil},
		{answer{3, 1, true}, []int{3, 7}, nil},
		{answer{}, []int{9, 4, 8}, nil}, // what was aborted does not count
		{answer{3, 1, true}, []int{9, 1, 4, 3}, nil},
		{answer{}, []int{77, 1, 78}, nil},
		{answer{2, 1, true}, []int{77, 2}, nil},
		{answer{}, []int{1, 2, 5}, []int{5}},
		{answer{3, 1, true}, []int{1, 3, 5}, []int{5}},
		{answer{}, []int{1, 3}, []int{3}}, // a tail is no front
		{answer{}, []int{2, 1}, []int{2, 1}},
		{answer{}, []int{2}, []int{2, 1}},
		{answer{2, 1, true}, []int{2, 1, 5}, []int{1, 5}},
		{answer{0, 5, true}, []int{1, 0}, nil}, // the read's own transaction is one, too
		{answer{1, 1, true}, []int{1, 1}, nil}, // also of reads that are not sound
		{answer{3, 1, true}, []int{1, 2, 3, 3}, nil},
		{answer{1, 1, true}, []int{1, 2, 3, 1}, nil},
	})
}

// P14.1: all short lists, and all short lists of Own.
func TestAllShortLists(t *testing.T) {
	h := of(done(2, appendOf(0, 1), appendOf(0, 4), appendOf(0, 3)), done(3, appendOf(0, 2), appendOf(1, 4), readOf(0), appendOf(0, 6)), undone(1, appendOf(0, 0), appendOf(0, 5)))
	x, w := newTable(t, h), what{h}
	eachList([]int{0, 1, 2, 3, 4, 5, 6, 7}, 4, func(list []int) {
		for _, own := range [][]int{nil, {2}, {2, 6}, {4, 4, 4, 4}} {
			testRead(t, x, w, table.Read{Txn: 3, Op: 2, Key: 0, List: list, Own: own})
		}
		testRead(t, x, w, table.Read{Txn: 7, Key: 0, List: list})
		testRead(t, x, w, table.Read{Txn: 7, Key: 1, List: list})
	})
	eachList([]int{1, 3, 4, 2, 6}, 5, func(list []int) {
		testRead(t, x, w, table.Read{Txn: 8, Key: 0, List: list})
	})
}

// P14.1: numbers that no history has.
func TestStrangers(t *testing.T) {
	h := of(done(0, appendOf(0, 0), appendOf(0, 1)), undone(1, appendOf(0, 2)))
	x, w := newTable(t, h), what{h}
	strange := []int{math.MinInt, math.MaxInt, -1, api.MaxNumber + 1, 1 << 32, 0}
	for _, a := range strange {
		for _, b := range strange {
			testRead(t, x, w, table.Read{Txn: a, Op: b, Key: 0, List: []int{0}})
			testRead(t, x, w, table.Read{Txn: a, Op: b, Key: b, List: []int{1, b, 0}, Own: []int{a}})
			testRead(t, x, w, table.Read{Txn: a, Op: a, Key: 0, List: []int{b, a, b, 2}, Own: []int{a, b}})
			testRead(t, x, w, table.Read{Txn: a, Op: a, Key: 0, List: []int{b, 2, a, 1}})
		}
	}
}

// P14.2: the three kinds, in their order.
func TestFind(t *testing.T) {
	for _, c := range []struct {
		text string
		want []api.Finding
	}{
		{"t 1 c\na 0 1\na 0 2\nt 2 c\nr 0 1\n", []api.Finding{{Kind: api.G1b, Txn: 2, Op: 0, Key: 0, Value: 1, Other: 1}}},
		{"t 1 a\na 0 1\nt 2 c\nr 0 1\n", []api.Finding{{Kind: api.G1a, Txn: 2, Op: 0, Key: 0, Value: 1, Other: 1}}},
		{"t 1 c\na 0 1\na 0 2\nt 2 c\nr 7\nr 0 2\n", []api.Finding{{Kind: api.Torn, Txn: 2, Op: 1, Key: 0, Value: 2, Other: 1}}},
		// one read of which all is true
		{"t 1 c\na 0 1\na 0 2\na 0 3\nt 3 a\na 0 4\nt 2 c\nr 0 4 2\n", []api.Finding{{Kind: api.Torn, Txn: 2, Op: 0, Key: 0, Value: 2, Other: 1}, {Kind: api.G1a, Txn: 2, Op: 0, Key: 0, Value: 4, Other: 3}, {Kind: api.G1b, Txn: 2, Op: 0, Key: 0, Value: 2, Other: 1}}},
		// the kinds stand in their order, not in that of the reads
		{"t 1 c\na 0 1\na 0 2\nt 3 a\na 0 4\nt 5 c\nr 0 1\nr 0 4\nr 0 2\n", []api.Finding{{Kind: api.Torn, Txn: 5, Op: 2, Key: 0, Value: 2, Other: 1}, {Kind: api.G1a, Txn: 5, Op: 1, Key: 0, Value: 4, Other: 3}, {Kind: api.G1b, Txn: 5, Op: 0, Key: 0, Value: 1, Other: 1}}},
		// by numbers, not by keys, nor as the history stands
		{"t 10 c\nr 0 1\nt 9 c\nr 3 1\nr 1 1\nt 100 c\nr 0 1\nt 1 c\na 0 1\na 0 2\na 1 1\na 1 2\na 3 1\na 3 2\n", []api.Finding{{Kind: api.G1b, Txn: 9, Op: 0, Key: 3, Value: 1, Other: 1}}},
		{"t 10 c\nr 0 2\nt 9 c\nr 3\nr 3 2\nr 1 2\nr 3 2\nt 1 a\na 0 1\na 0 2\na 1 1\na 1 2\na 3 1\na 3 2\n", []api.Finding{{Kind: api.G1a, Txn: 9, Op: 1, Key: 3, Value: 2, Other: 1}}},
		{"t 10 c\nr 0 2\nt 9 c\nr 4 2\nr 3 2\nr 1 2\nr 3 2\nt 1 c\na 0 1\na 0 2\na 1 1\na 1 2\na 3 1\na 3 2\na 4 2\n", []api.Finding{{Kind: api.Torn, Txn: 9, Op: 1, Key: 3, Value: 2, Other: 1}}},
		// numbers and values that are 0
		{"t 0 c\na 0 0\na 0 1\nt 1 c\nr 0 0\n", []api.Finding{{Kind: api.G1b, Txn: 1, Op: 0, Key: 0, Value: 0, Other: 0}}},
		{"t 1 c\na 0 1\na 0 0\nt 0 c\nr 0 0\n", []api.Finding{{Kind: api.Torn, Txn: 0, Op: 0, Key: 0, Value: 0, Other: 1}}},
		// what is not sound is not asked, and what is behind it is
		{"t 1 c\na 0 1\na 0 2\nt 2 c\nr 0 1 1\nr 0 2 9\nr 0 2 1 1\n", nil},
		{"t 1 c\na 0 1\na 0 2\nt 2 c\nr 0 1 1\nr 0 2 9\nt 3 c\nr 0 1\n", []api.Finding{{Kind: api.G1b, Txn: 3, Op: 0, Key: 0, Value: 1, Other: 1}}},
		{"t 4 a\na 0 4\nt 2 c\na 0 7\nr 0 4\nr 0 4 7\n", []api.Finding{{Kind: api.G1a, Txn: 2, Op: 2, Key: 0, Value: 4, Other: 4}}},
		// of what was aborted nothing is asked
		{"t 1 c\na 0 1\na 0 2\nt 2 a\na 0 3\nr 0 1 3\nr 0 2 3\nt 3 a\nr 0 3\nr 0 1\n", nil},
		// what the transaction itself appended is no front
		{"t 1 c\na 0 1\nr 0 1\na 0 2\nr 0 1 2\n", nil},
		{"t 1 c\na 0 1\na 0 2\nt 2 c\na 0 5\nr 0 1 2 5\na 0 6\nr 0 1 2 5 6\n", nil},
		// another key's values are another key's
		{"t 1 c\na 0 1\na 1 2\nt 2 c\nr 0 1\nr 1 2\n", nil},
		{"t 1 c\na 0 1\nt 3 a\na 1 1\nt 2 c\nr 0 1\n", nil},
		{"t 1 c\n", nil},
		{"", nil},
	} {
		h := parse(t, c.text)
		testFind(t, newTable(t, h), c.want)
		testAll(t, h)
	}
}

// P14.1, P14.2: all short histories of a transaction that reads what three others append, of which one was aborted.
func TestAllShort(t *testing.T) {
	kinds := []api.Op{appendOf(0, 6), readOf(0, 1), readOf(0, 2), readOf(0, 2, 3, 1), readOf(0, 1, 2), readOf(0, 4, 6), readOf(1, 5), readOf(1, 3, 5), readOf(0, 6)}
	n := 0
	eachList(kinds, 4, func(l []api.Op) {
		for cut := range len(l) + 1 {
			h := of(done(6, l[cut:]...), done(5, l[:cut]...), undone(1, appendOf(0, 4), readOf(0, 9), appendOf(1, 5)), done(9, appendOf(0, 1), appendOf(0, 2), appendOf(1, 3)), done(3, appendOf(0, 3), appendOf(1, 6)))
			if _, e := table.New(h); e == api.OK {
				testAll(t, h)
				n++
			}
		}
	})
	if n < 10000 {
		t.Error("only so many histories:", n)
	}
}

// P14.1, P14.2: longer histories.
func TestLong(t *testing.T) {
	r := rand.New(rand.NewPCG(14, 1))
	seen := map[int]int{}
	for range 1500 {
		h := someHistory(r, 2+r.IntN(5), 1+r.IntN(9))
		testAll(t, h)
		found := what{h}.find()
		for _, f := range found {
			seen[f.Kind]++
		}
		if len(found) == 0 && len(what{h}.all()) > 3 {
			seen[0]++
		}
	}
	if min(seen[0], seen[api.Torn], seen[api.G1a], seen[api.G1b]) < 100 {
		t.Error("the histories have too few of a kind:", seen)
	}
}

// P14.1, P14.2: as long as a history may be: 1 appends the values below 2000, rising, and 2 the next 40, which was aborted; of the reads, which are long at first, and then short, three are not clean.
func TestLimits(t *testing.T) {
	var appends, lost, list []api.Op
	var values []int
	for v := range 2000 {
		appends = append(appends, appendOf(0, v))
		values = append(values, v)
	}
	for v := range 40 {
		lost = append(lost, appendOf(0, 2000+v))
	}
	for k := range 20 {
		l := slices.Clone(values)
		switch k {
		case 5:
			l = append(l[:998], 999, 998)
		case 10:
			l = append(l[:1000], 2007, 2003)
		case 15:
			l = l[:1999]
		}
		list = append(list, readOf(0, l...))
	}
	for range 2000 {
		list = append(list, readOf(0, 0))
	}
	h := of(done(api.MaxNumber, appends...), undone(9, lost...), done(7, list...))
	testFind(t, newTable(t, h), []api.Finding{{Kind: api.Torn, Txn: 7, Op: 5, Key: 0, Value: 999, Other: api.MaxNumber}, {Kind: api.G1a, Txn: 7, Op: 10, Key: 0, Value: 2007, Other: 9}, {Kind: api.G1b, Txn: 7, Op: 5, Key: 0, Value: 998, Other: api.MaxNumber}})
	list[5], list[10], list[15] = readOf(0), readOf(0), readOf(0)
	testFind(t, newTable(t, h), []api.Finding{{Kind: api.G1b, Txn: 7, Op: 20, Key: 0, Value: 0, Other: api.MaxNumber}})
}

// P14.1: of as many transactions as a history may have, each with a value in a list, the first one to come there that is wrong.
func TestManyTransactions(t *testing.T) {
	var h api.History
	var list []int
	for id := range api.MaxTxns - 1 {
		h.Txns = append(h.Txns, done(id, appendOf(0, 2*id), appendOf(0, 2*id+1)))
		list = append(list, 2*id)
	}
	for id := range api.MaxTxns - 1 {
		list = append(list, 2*id+1)
	}
	h.Txns = append(h.Txns, done(5000, readOf(0, list...)))
	testFind(t, newTable(t, h), nil)
	list[700], list[1023+700] = list[1023+700], list[700]
	list[900], list[1023+900] = list[1023+900], list[900]
	h.Txns[api.MaxTxns-1].Ops[0].List = list
	testFind(t, newTable(t, h), []api.Finding{{Kind: api.Torn, Txn: 5000, Op: 0, Key: 0, Value: 1401, Other: 700}})
	long := table.Read{Txn: 5000, Key: 0, List: slices.Repeat([]int{0, 1}, 60000)}
	if v, id, is := dirty.Torn(newTable(t, h), long); v != 0 || id != 0 || !is {
		t.Error(v, id, is)
	}
}

// serialHistory is what transactions do that run one behind the other, each on what those ahead of it left; what was aborted is undone.
func serialHistory(r *rand.Rand, txns, ops int) api.History {
	var h api.History
	lists := map[int][]int{}
	for _, id := range r.Perm(txns * 3)[:txns] {
		x := api.Txn{ID: id, Aborted: r.IntN(4) == 0}
		now := map[int][]int{}
		for key := range 3 {
			now[key] = slices.Clone(lists[key])
		}
		for k := range r.IntN(ops + 1) {
			key := r.IntN(3)
			if r.IntN(2) == 0 {
				x.Ops = append(x.Ops, readOf(key, slices.Clone(now[key])...))
				continue
			}
			value := id*ops + ops - k
			x.Ops = append(x.Ops, appendOf(key, value))
			now[key] = append(now[key], value)
		}
		if !x.Aborted {
			lists = now
		}
		h.Txns = append(h.Txns, x)
	}
	return h
}

// P14.3: what a serial run reads is neither torn nor dirty.
func TestSerial(t *testing.T) {
	r := rand.New(rand.NewPCG(14, 3))
	n := 0
	for range 300 {
		h := serialHistory(r, 1+r.IntN(8), 1+r.IntN(10))
		x := newTable(t, h)
		testFind(t, x, nil)
		for _, read := range (what{h}).all() {
			for _, q := range questions() {
				if v, id, is := q.ask(x, read); v != 0 || id != 0 || is {
					t.Errorf("%s of %+v: %d, %d, %t", q.name, read, v, id, is)
				}
			}
			n += len(reads.Front(read))
		}
		if t.Failed() {
			t.Fatalf("of %+v", h)
		}
	}
	if n < 1000 {
		t.Error("only so many values in fronts:", n)
	}
}

// P14.1, P14.2: a table that is not there, or that no call made, says nothing, so nobody appends anything.
func TestNoTable(t *testing.T) {
	for _, x := range []*table.Table{nil, {}, new(table.Table)} {
		for _, r := range []table.Read{
			{}, {Txn: 1, List: []int{0}}, {Key: 5, List: []int{7, 0}}, {List: []int{0, 0}}, {Own: []int{0}}, {List: []int{1}, Own: []int{1, 2}},
			{Txn: math.MinInt, Op: math.MinInt, Key: math.MinInt, List: []int{math.MinInt, 4}, Own: []int{math.MaxInt}},
		} {
			testRead(t, x, what{}, r)
		}
		testFind(t, x, nil)
	}
}

// R3: a read's lists are not changed, nor what stands behind them.
func TestReadStays(t *testing.T) {
	x := newTable(t, one())
	eachList([]int{1, 2, 4, 5, 6}, 4, func(l []int) {
		r := table.Read{Txn: 5, Op: 1, Key: 0, List: spare(l...), Own: spare(5)}
		for _, q := range questions() {
			q.ask(x, r)
		}
		if !slices.Equal(r.List[:len(l)+3], append(slices.Clone(l), -7, -8, -9)) || !slices.Equal(r.Own[:4], []int{5, -7, -8, -9}) {
			t.Fatal("what was handed in is changed", l, r)
		}
	})
}

// R3, R4: what is asked of a table, and what is done to an answer, changes neither the table nor another answer, nor another table, nor the history.
func TestApart(t *testing.T) {
	r := rand.New(rand.NewPCG(14, 4))
	for range 60 {
		h, g := someHistory(r, 5, 6), someHistory(r, 5, 6)
		before := copyOf(h)
		x, y := newTable(t, h), newTable(t, g)
		for range 2 {
			testFind(t, x, what{h}.find())
			testFind(t, y, what{g}.find())
			for _, read := range (what{h}).all() {
				testRead(t, x, what{h}, read)
				testRead(t, y, what{g}, read) // another table's read is one that no history has
			}
			found := dirty.Find(x)
			for k := range found {
				found[k] = api.Finding{Kind: 77}
			}
		}
		if !reflect.DeepEqual(copyOf(h), before) {
			t.Fatal("the history is changed", h)
		}
	}
}

// R4: in which order the transactions stand in the history does not count.
func TestAnyOrder(t *testing.T) {
	r := rand.New(rand.NewPCG(14, 5))
	for range 60 {
		h := someHistory(r, 6, 6)
		want := dirty.Find(newTable(t, h))
		other := copyOf(h)
		slices.Reverse(other.Txns)
		testFind(t, newTable(t, other), want)
		r.Shuffle(len(other.Txns), func(i, k int) { other.Txns[i], other.Txns[k] = other.Txns[k], other.Txns[i] })
		testFind(t, newTable(t, other), want)
		testAll(t, other)
	}
}
