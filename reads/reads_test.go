package reads_test

import (
	"iter"
	"math"
	"math/rand/v2"
	"reflect"
	"slices"
	"testing"

	"coroner/api"
	"coroner/history"
	"coroner/reads"
	"coroner/table"
)

// of is a history of some transactions.
func of(txns ...api.Txn) api.History { return api.History{Txns: txns} }

// done is a committed transaction.
func done(id int, ops ...api.Op) api.Txn { return api.Txn{ID: id, Ops: ops} }

// undone is an aborted transaction.
func undone(id int, ops ...api.Op) api.Txn { return api.Txn{ID: id, Aborted: true, Ops: ops} }

func appendOf(key, value int) api.Op { return api.Op{Key: key, Value: value} }

func readOf(key int, list ...int) api.Op { return api.Op{Read: true, Key: key, List: list} }

// parse is the history of a text.
func parse(t *testing.T, s string) api.History {
	t.Helper()
	h, e, at := history.Decode([]byte(s), api.MaxOps)
	if e != api.OK {
		t.Fatalf("%q: error %d at %d", s, int(e), at)
	}
	return h
}

// newTable is the table of a history that may be.
func newTable(t *testing.T, h api.History) *table.Table {
	t.Helper()
	x, e := table.New(h)
	if x == nil || e != api.OK {
		t.Fatalf("New is %v, error %d", x, int(e))
	}
	return x
}

// copyOf is a history that shares nothing with another one.
func copyOf(h api.History) api.History {
	var own api.History
	for _, x := range h.Txns {
		y := api.Txn{ID: x.ID, Aborted: x.Aborted}
		for _, o := range x.Ops {
			o.List = slices.Clone(o.List)
			y.Ops = append(y.Ops, o)
		}
		own.Txns = append(own.Txns, y)
	}
	return own
}

// copyOfRead is a read that shares nothing with another one.
func copyOfRead(r table.Read) table.Read {
	r.List, r.Own = slices.Clone(r.List), slices.Clone(r.Own)
	return r
}

// spare is a list with room behind it, in which marks stand.
func spare(l ...int) []int {
	return append(slices.Clone(l), -7, -8, -9)[:len(l)]
}

// eachList goes through all lists of some things, up to a length.
func eachList[T any](things []T, most int, do func(l []T)) {
	var grow func(l []T)
	grow = func(l []T) {
		do(l)
		if len(l) < most {
			for _, x := range things {
				grow(append(slices.Clone(l), x))
			}
		}
	}
	grow(nil)
}

// sameRead asks whether two reads are alike; no list and an empty one are.
func sameRead(a, b table.Read) bool {
	return a.Txn == b.Txn && a.Op == b.Op && a.Key == b.Key && slices.Equal(a.List, b.List) && slices.Equal(a.Own, b.Own)
}

// what is what a history says, in the chapter's words: each answer is looked for in the whole history.
type what struct{ h api.History }

// appender is the number of the transaction that appends a value to a key.
func (w what) appender(key, value int) (int, bool) {
	for _, x := range w.h.Txns {
		for _, o := range x.Ops {
			if !o.Read && o.Key == key && o.Value == value {
				return x.ID, true
			}
		}
	}
	return 0, false
}

// split are a read's front and its tail; nothing and the whole list, if that is too short.
func split(r table.Read) (front, tail []int) {
	for k, v := range r.List {
		if len(r.List)-k > len(r.Own) {
			front = append(front, v)
		} else {
			tail = append(tail, v)
		}
	}
	return front, tail
}

// kind is what is wrong with a read, and by which value, as the chapter says it.
func (w what) kind(r table.Read) (int, int) {
	for k, v := range r.List {
		if slices.Contains(r.List[:k], v) {
			return api.Twice, v
		}
	}
	for _, v := range r.List {
		if _, is := w.appender(r.Key, v); !is {
			return api.Unborn, v
		}
	}
	front, tail := split(r)
	for k, v := range r.Own {
		fromEnd := len(r.Own) - k // 1 is the last one
		if fromEnd > len(tail) || tail[len(tail)-fromEnd] != v {
			return api.Inner, v
		}
	}
	for _, v := range front {
		if id, is := w.appender(r.Key, v); is && id == r.Txn {
			return api.Inner, v
		}
	}
	return 0, 0
}

// all are the reads of committed transactions, by the transactions' numbers, and then their places.
func (w what) all() []table.Read {
	txns := slices.Clone(w.h.Txns)
	slices.SortFunc(txns, func(a, b api.Txn) int { return a.ID - b.ID })
	var l []table.Read
	for _, x := range txns {
		own := map[int][]int{}
		for k, o := range x.Ops {
			if !o.Read {
				own[o.Key] = append(own[o.Key], o.Value)
			} else if !x.Aborted {
				l = append(l, table.Read{Txn: x.ID, Op: k, Key: o.Key, List: o.List, Own: slices.Clone(own[o.Key])})
			}
		}
	}
	return l
}

// sound are the sound reads of a key.
func (w what) sound(key int) []table.Read {
	var l []table.Read
	for _, r := range w.all() {
		if kind, _ := w.kind(r); kind == 0 && r.Key == key {
			l = append(l, r)
		}
	}
	return l
}

// find are the first reads of the three kinds.
func (w what) find() []api.Finding {
	var l []api.Finding
	for _, want := range []int{api.Twice, api.Unborn, api.Inner} {
		for _, r := range w.all() {
			if kind, v := w.kind(r); kind == want {
				l = append(l, api.Finding{Kind: kind, Txn: r.Txn, Op: r.Op, Key: r.Key, Value: v, Other: -1})
				break
			}
		}
	}
	return l
}

// keys are all keys of a history, and some that it does not have.
func (w what) keys() []int {
	l := []int{-1, 0, 1, 1000, math.MinInt, math.MaxInt}
	for _, x := range w.h.Txns {
		for _, o := range x.Ops {
			l = append(l, o.Key)
		}
	}
	slices.Sort(l)
	return slices.Compact(l)
}

// testKind holds a read's kind, and its front.
func testKind(t *testing.T, x *table.Table, w what, r table.Read) {
	t.Helper()
	want, value := w.kind(r)
	if kind, v := reads.Kind(x, r); kind != want || v != value {
		t.Errorf("Kind of %+v is %d, %d, not %d, %d", r, kind, v, want, value)
	}
	if len(r.List) < len(r.Own) {
		if l := reads.Front(r); len(l) != 0 {
			t.Errorf("Front of %+v is %v", r, l)
		}
		return
	}
	if l := reads.Front(r); !slices.Equal(slices.Concat(l, r.List[len(r.List)-len(r.Own):]), r.List) {
		t.Errorf("Front of %+v is %v", r, l)
	}
}

// sameFinding asks whether two findings are alike, their cycles included, of which there is none.
func sameFinding(f, g api.Finding) bool {
	return f.Kind == g.Kind && f.Txn == g.Txn && f.Op == g.Op && f.Key == g.Key && f.Value == g.Value && f.Other == g.Other && len(f.Cycle) == 0 && len(g.Cycle) == 0
}

// testFind holds what is found.
func testFind(t *testing.T, x *table.Table, want []api.Finding) {
	t.Helper()
	if l := reads.Find(x); !slices.EqualFunc(l, want, sameFinding) {
		t.Errorf("Find is %+v, not %+v", l, want)
	}
}

// testSound holds the sound reads of a key.
func testSound(t *testing.T, x *table.Table, key int, want []table.Read) {
	t.Helper()
	if l := slices.Collect(reads.Sound(x, key)); !slices.EqualFunc(l, want, sameRead) {
		t.Errorf("Sound of %d is %+v, not %+v", key, l, want)
	}
}

// testAll holds all that is said of a history's reads.
func testAll(t *testing.T, h api.History) {
	t.Helper()
	x, w := newTable(t, h), what{h}
	for _, r := range w.all() {
		testKind(t, x, w, r)
	}
	for _, key := range w.keys() {
		testSound(t, x, key, w.sound(key))
	}
	testFind(t, x, w.find())
	if t.Failed() {
		t.Fatalf("of %+v", h)
	}
}

// someHistory has reads of which many are nearly true: of what is there, what is appended further on, what nobody appends, and what stands there twice.
func someHistory(r *rand.Rand, txns, ops int) api.History {
	used := map[[2]int]bool{}
	var h api.History
	for _, id := range r.Perm(txns * 2)[:txns] {
		x := api.Txn{ID: id, Aborted: r.IntN(4) == 0}
		own := map[int][]int{}
		for range r.IntN(ops + 1) {
			key, value := r.IntN(2), r.IntN(txns+4)
			switch {
			case r.IntN(2) == 0:
				l := r.Perm(txns + 4)[:r.IntN(4)]
				if r.IntN(3) > 0 {
					l = append(slices.DeleteFunc(l, func(v int) bool { return slices.Contains(own[key], v) }), own[key]...)
				}
				if len(l) > 0 && r.IntN(8) == 0 {
					l = append(l, l[r.IntN(len(l))])
				}
				x.Ops = append(x.Ops, readOf(key, l...))
			case !used[[2]int{key, value}]:
				used[[2]int{key, value}] = true
				own[key] = append(own[key], value)
				x.Ops = append(x.Ops, appendOf(key, value))
			}
		}
		h.Txns = append(h.Txns, x)
	}
	return h
}

// P13.1: the examples, and one of each kind.
func TestKind(t *testing.T) {
	// 3 appends 5 and 7 ahead of the read, and 9 behind it; 4 was aborted
	h := of(done(3, appendOf(1, 5), appendOf(2, 8), appendOf(1, 7), readOf(1), appendOf(1, 9)), done(2, appendOf(1, 3), appendOf(1, 0)), undone(4, appendOf(1, 4)))
	x, w := newTable(t, h), what{h}
	for _, c := range []struct {
		kind, value int
		list        []int
	}{
		{0, 0, []int{5, 7}},
		{0, 0, []int{3, 5, 7}},
		{0, 0, []int{0, 4, 3, 5, 7}},
		{0, 0, []int{4, 5, 7}}, // of an aborted one, too
		{api.Twice, 3, []int{3, 3, 5, 7}},
		{api.Twice, 7, []int{5, 7, 7}},
		{api.Twice, 3, []int{4, 3, 3, 4}},    // the first one to stand there again, not the first one of all
		{api.Twice, 4, []int{3, 4, 4, 3, 3}}, // the second time, not the third one
		{api.Twice, 6, []int{1, 6, 6}},       // ahead of Unborn
		{api.Twice, 0, []int{0, 0}},
		{api.Unborn, 8, []int{3, 8, 6, 5, 7}}, // it is another key's
		{api.Unborn, 6, []int{6}},             // ahead of Inner
		{api.Unborn, -1, []int{3, -1, 5}},
		{api.Unborn, 2, []int{5, 7, 2}},
		{api.Inner, 5, nil},
		{api.Inner, 5, []int{7}},
		{api.Inner, 5, []int{5}},
		{api.Inner, 5, []int{7, 5}},
		{api.Inner, 5, []int{3, 7}},
		{api.Inner, 7, []int{5, 3}},
		{api.Inner, 5, []int{5, 7, 3}},
		{api.Inner, 5, []int{9, 3, 7}}, // the tail ahead of the front
		{api.Inner, 5, []int{5, 3, 7}},
		{api.Inner, 9, []int{9, 5, 7}}, // behind the read
		{api.Inner, 9, []int{3, 9, 4, 5, 7}},
		{api.Inner, 7, []int{9, 3, 5, 4}},
		{api.Inner, 5, []int{5, 7, 9}},
	} {
		r := table.Read{Txn: 3, Op: 3, Key: 1, List: c.list, Own: []int{5, 7}}
		if kind, v := reads.Kind(x, r); kind != c.kind || v != c.value {
			t.Errorf("%v: %d, %d, not %d, %d", c.list, kind, v, c.kind, c.value)
		}
		testKind(t, x, w, r)
	}
}

// P13.1: the chapter's example.
func TestExample(t *testing.T) {
	h := parse(t, "t 1 c\na 0 3\nt 2 c\na 0 5\nr 0 3 5\nr 0 5 3\n")
	x := newTable(t, h)
	l := slices.Collect(x.Reads(0))
	if kind, v := reads.Kind(x, l[0]); kind != 0 || v != 0 {
		t.Error(kind, v)
	}
	if kind, v := reads.Kind(x, l[1]); kind != api.Inner || v != 5 {
		t.Error(kind, v)
	}
	testSound(t, x, 0, l[:1])
	testFind(t, x, []api.Finding{{Kind: api.Inner, Txn: 2, Op: 2, Key: 0, Value: 5, Other: -1}})
}

// P13.1: what its own transaction appends is found also where the read does not say that it is its own.
func TestKindOwnAhead(t *testing.T) {
	h := of(done(3, appendOf(1, 5), appendOf(1, 7)), undone(6, appendOf(1, 4)), done(0, appendOf(1, 2)))
	x := newTable(t, h)
	for _, c := range []struct {
		txn, kind, value int
		list, own        []int
	}{
		{3, api.Inner, 5, []int{5}, nil},
		{3, api.Inner, 7, []int{2, 7, 5}, []int{5}},
		{3, api.Inner, 7, []int{7, 5}, nil},
		{6, api.Inner, 4, []int{2, 4}, nil}, // of an aborted one
		{0, api.Inner, 2, []int{5, 2}, nil},
		{0, 0, 0, []int{5}, nil},
		{0, 0, 0, []int{2}, []int{2}},
		{9, 0, 0, []int{5, 7, 4, 2}, nil}, // a transaction that is not there
		{9, 0, 0, []int{5, 7}, []int{7}},
		{9, api.Inner, 99, []int{5, 7}, []int{99}}, // and has what is not there
		{9, api.Inner, 7, []int{7}, []int{7, 7}},
		{-1, api.Inner, 0, nil, []int{0}},
		{-1, 0, 0, nil, nil},
	} {
		r := table.Read{Txn: c.txn, Op: -5, Key: 1, List: c.list, Own: c.own}
		if kind, v := reads.Kind(x, r); kind != c.kind || v != c.value {
			t.Errorf("%+v: %d, %d", c, kind, v)
		}
		testKind(t, x, what{h}, r)
	}
}

// P13.1: all short lists, and all short lists of Own.
func TestKindAllShort(t *testing.T) {
	h := of(done(2, appendOf(0, 1)), done(3, appendOf(0, 2), appendOf(1, 4), readOf(0), appendOf(0, 3)), undone(1, appendOf(0, 0)))
	x, w := newTable(t, h), what{h}
	eachList([]int{2, 1, 3, 0}, 2, func(own []int) {
		eachList([]int{0, 1, 2, 3, 4}, 4, func(list []int) {
			testKind(t, x, w, table.Read{Txn: 3, Op: 2, Key: 0, List: list, Own: own})
			testKind(t, x, w, table.Read{Txn: 7, Key: 0, List: list, Own: own})
		})
	})
	testKind(t, x, w, table.Read{Txn: 3, Key: 1, List: []int{4}})
	testKind(t, x, w, table.Read{Txn: 2, Key: 1, List: []int{4}})
	testKind(t, x, w, table.Read{Txn: 2, Key: 2, List: []int{4}})
}

// P13.1: numbers that no history has.
func TestKindStrangers(t *testing.T) {
	h := of(done(0, appendOf(0, 0)))
	x, w := newTable(t, h), what{h}
	strange := []int{math.MinInt, math.MaxInt, -1, api.MaxNumber + 1, 0}
	for _, a := range strange {
		for _, b := range strange {
			testKind(t, x, w, table.Read{Txn: a, Op: b, Key: 0, List: []int{0}})
			testKind(t, x, w, table.Read{Txn: a, Op: b, Key: b, List: []int{0, b}, Own: []int{a}})
			testKind(t, x, w, table.Read{Txn: a, Op: a, Key: 0, List: []int{b, a, b}, Own: []int{a, b, a, b}})
		}
	}
}

// P13.1: fronts.
func TestFront(t *testing.T) {
	for _, c := range []struct{ list, own, want []int }{
		{nil, nil, nil},
		{[]int{4}, nil, []int{4}},
		{[]int{4, 4}, []int{}, []int{4, 4}},
		{[]int{1, 2, 3}, []int{9}, []int{1, 2}},
		{[]int{1, 2, 3}, []int{9, 9}, []int{1}},
		{[]int{1, 2, 3}, []int{2, 3, 4}, nil},
		{[]int{1, 2, 3}, []int{2, 3, 4, 5}, nil},
		{[]int{1}, []int{9, 8}, nil},
		{nil, []int{9}, nil},
		{[]int{}, []int{9, 7}, nil},
		{[]int{5, 9}, []int{9}, []int{5}},
	} {
		if l := reads.Front(table.Read{Txn: 5, List: c.list, Own: c.own}); !slices.Equal(l, c.want) {
			t.Errorf("%+v: %v", c, l)
		}
	}
}

// P13.1, P13.2, P13.3: as long as a history may be.
func TestLimits(t *testing.T) {
	var appends, list []api.Op
	var values []int
	for v := range 1000 {
		appends = append(appends, appendOf(0, v), appendOf(1, v))
		values = append(values, v)
	}
	for k := range 60 {
		l := slices.Clone(values)
		switch k {
		case 30:
			l[999] = 998
		case 40:
			l[999] = 1000
		}
		list = append(list, readOf(k%2, l...))
	}
	h := of(done(api.MaxNumber, appends...), done(7, list...))
	x := newTable(t, h)
	testFind(t, x, []api.Finding{{Kind: api.Twice, Txn: 7, Op: 30, Key: 0, Value: 998, Other: -1}, {Kind: api.Unborn, Txn: 7, Op: 40, Key: 0, Value: 1000, Other: -1}})
	if n, m := len(slices.Collect(reads.Sound(x, 0))), len(slices.Collect(reads.Sound(x, 1))); n != 28 || m != 30 {
		t.Error(n, m)
	}
	long := table.Read{Key: 0, List: make([]int, 130000)}
	for k := range long.List {
		long.List[k] = k
	}
	if kind, v := reads.Kind(x, long); kind != api.Unborn || v != 1000 {
		t.Error(kind, v)
	}
	long.List[129999] = 0
	if kind, v := reads.Kind(x, long); kind != api.Twice || v != 0 {
		t.Error(kind, v)
	}
	long.Own = long.List[1:]
	if l := reads.Front(long); !slices.Equal(l, []int{0}) {
		t.Error(l)
	}
}

// testWanted holds that what goes through reads stops where no more are wanted, and goes through them again, also while it goes through them.
func testWanted(t *testing.T, all iter.Seq[table.Read], want []table.Read) {
	t.Helper()
	for most := 1; most <= len(want); most++ {
		var got []table.Read
		all(func(r table.Read) bool {
			got = append(got, r)
			return len(got) < most
		})
		if !slices.EqualFunc(got, want[:most], sameRead) {
			t.Errorf("the first %d are %+v, not %+v", most, got, want[:most])
		}
	}
	n := 0
	for range all {
		if got := slices.Collect(all); !slices.EqualFunc(got, want, sameRead) {
			t.Errorf("within: %+v, not %+v", got, want)
		}
		n++
	}
	if n != len(want) {
		t.Errorf("%d, not %d", n, len(want))
	}
}

// P13.2, R3: the sound ones alone, in order, as long as they are wanted, and again and again.
func TestSound(t *testing.T) {
	h := parse(t, "t 9 c\nr 1 3\na 1 5\nr 1 3 5\nr 1 3\nr 1 5 5\nr 1 4 5\nr 2\nt 4 c\nr 1\na 1 3\nr 1 7\nr 1 3\nt 5 a\na 1 4\nr 1 4\nt 10 c\nr 1 5 4\nr 1 6\n")
	x := newTable(t, h)
	want := []table.Read{
		{Txn: 4, Op: 0, Key: 1}, {Txn: 4, Op: 3, Key: 1, List: []int{3}, Own: []int{3}},
		{Txn: 9, Op: 0, Key: 1, List: []int{3}}, {Txn: 9, Op: 2, Key: 1, List: []int{3, 5}, Own: []int{5}}, {Txn: 9, Op: 5, Key: 1, List: []int{4, 5}, Own: []int{5}},
		{Txn: 10, Op: 0, Key: 1, List: []int{5, 4}},
	}
	testWanted(t, reads.Sound(x, 1), want)
	testWanted(t, reads.Sound(x, 2), []table.Read{{Txn: 9, Op: 6, Key: 2}})
	for _, key := range []int{0, 3, -1, math.MinInt, math.MaxInt} {
		testWanted(t, reads.Sound(x, key), nil)
	}
	testAll(t, h)
}

// P13.3: by the transaction's number, and then the operation's place, and not by keys, nor as the history stands.
func TestFind(t *testing.T) {
	for _, c := range []struct {
		text string
		want []api.Finding
	}{
		{"t 9 c\nr 0 1 1\nt 5 c\nr 7 2 2\n", []api.Finding{{Kind: api.Twice, Txn: 5, Op: 0, Key: 7, Value: 2, Other: -1}}},
		{"t 5 c\na 8 1\nr 7 2 2\nr 0 1 1\nr 3 8 8\n", []api.Finding{{Kind: api.Twice, Txn: 5, Op: 1, Key: 7, Value: 2, Other: -1}}},
		{"t 5 c\nr 0\nr 1 4\nr 0 6\nt 2 a\nr 0 3\n", []api.Finding{{Kind: api.Unborn, Txn: 5, Op: 1, Key: 1, Value: 4, Other: -1}}},
		{"t 10 c\na 0 1\nr 0\nt 9 c\na 2 1\nr 2\nt 100 c\na 1 1\nr 1\n", []api.Finding{{Kind: api.Inner, Txn: 9, Op: 1, Key: 2, Value: 1, Other: -1}}},
		{"t 1 c\na 0 0\nr 0\nt 2 c\nr 0 5\nt 3 c\nr 0 0 0\n", []api.Finding{{Kind: api.Twice, Txn: 3, Op: 0, Key: 0, Value: 0, Other: -1}, {Kind: api.Unborn, Txn: 2, Op: 0, Key: 0, Value: 5, Other: -1}, {Kind: api.Inner, Txn: 1, Op: 1, Key: 0, Value: 0, Other: -1}}},
		{"t 0 c\nr 0 0\n", []api.Finding{{Kind: api.Unborn, Txn: 0, Op: 0, Key: 0, Value: 0, Other: -1}}},
		{"t 1 a\na 0 1\nr 0 1 1\nr 0 9\nr 0\n", nil}, // of an aborted one nothing is asked
		{"t 1 a\na 0 1\nt 2 c\nr 0 1\n", nil},        // what was aborted is another layer's
		{"t 1 c\n", nil},
		{"", nil},
	} {
		h := parse(t, c.text)
		testFind(t, newTable(t, h), c.want)
		testAll(t, h)
	}
}

// P13.3: a read counts for its first kind alone.
func TestFindFirstKind(t *testing.T) {
	h := parse(t, "t 1 c\na 0 1\nr 0 8 8\nt 2 c\na 0 2\nr 0 8\nt 3 c\nr 0 9 9\nr 0 7\n")
	testFind(t, newTable(t, h), []api.Finding{{Kind: api.Twice, Txn: 1, Op: 1, Key: 0, Value: 8, Other: -1}, {Kind: api.Unborn, Txn: 2, Op: 1, Key: 0, Value: 8, Other: -1}})
	testAll(t, h)
}

// P13.1 to P13.3: all short histories of two transactions, and a third one that was aborted.
func TestAllShort(t *testing.T) {
	kinds := []api.Op{appendOf(0, 2), appendOf(1, 2), readOf(0, 1, 2), readOf(0, 2, 1), readOf(0), readOf(1, 2), readOf(0, 3, 1), readOf(1, 4, 4)}
	eachList(kinds, 4, func(l []api.Op) {
		for cut := range len(l) + 1 {
			h := of(done(6, l[cut:]...), done(5, l[:cut]...), undone(1, appendOf(0, 1), readOf(0, 9)))
			if _, e := table.New(h); e == api.OK {
				testAll(t, h)
			}
		}
	})
}

// P13.1 to P13.3: longer histories.
func TestLong(t *testing.T) {
	r := rand.New(rand.NewPCG(13, 1))
	seen := map[int]int{}
	for range 1500 {
		h := someHistory(r, 1+r.IntN(5), 1+r.IntN(9))
		testAll(t, h)
		for _, x := range (what{h}).all() {
			kind, _ := what{h}.kind(x)
			seen[kind]++
		}
	}
	if min(seen[0], seen[api.Twice], seen[api.Unborn], seen[api.Inner]) < 100 {
		t.Error("the histories have too few of a kind:", seen)
	}
}

// serialHistory is what transactions do that run one behind the other, each on what those ahead of it left; what was aborted is undone.
func serialHistory(r *rand.Rand, txns, ops int) api.History {
	var h api.History
	lists := map[int][]int{}
	for _, id := range r.Perm(txns * 3)[:txns] {
		x := api.Txn{ID: id, Aborted: r.IntN(4) == 0}
		now := map[int][]int{}
		for key := range 3 {
			now[key] = slices.Clone(lists[key])
		}
		for k := range r.IntN(ops + 1) {
			key := r.IntN(3)
			if r.IntN(2) == 0 {
				x.Ops = append(x.Ops, readOf(key, slices.Clone(now[key])...))
				continue
			}
			value := id*ops + k
			x.Ops = append(x.Ops, appendOf(key, value))
			now[key] = append(now[key], value)
		}
		if !x.Aborted {
			lists = now
		}
		h.Txns = append(h.Txns, x)
	}
	return h
}

// P13.4: what a serial run reads is sound.
func TestSerial(t *testing.T) {
	r := rand.New(rand.NewPCG(13, 4))
	n := 0
	for range 300 {
		h := serialHistory(r, 1+r.IntN(8), 1+r.IntN(10))
		x := newTable(t, h)
		testFind(t, x, nil)
		for key := range 4 {
			all := slices.Collect(x.Reads(key))
			testSound(t, x, key, all)
			for _, read := range all {
				if kind, v := reads.Kind(x, read); kind != 0 || v != 0 {
					t.Errorf("%+v: %d, %d", read, kind, v)
				}
			}
			n += len(all)
		}
		if t.Failed() {
			t.Fatalf("of %+v", h)
		}
	}
	if n < 1000 {
		t.Error("only so many reads:", n)
	}
}

// P13.1 to P13.3: a table that is not there, or that no call made, says nothing, so nobody appends anything.
func TestNoTable(t *testing.T) {
	for _, x := range []*table.Table{nil, {}} {
		for _, r := range []table.Read{
			{}, {Txn: 1, List: []int{0}}, {Key: 5, List: []int{7, 0}}, {List: []int{0, 0}}, {Own: []int{0}}, {Own: []int{6, 4}}, {List: []int{1}, Own: []int{1}}, {List: []int{1}, Own: []int{1, 2}},
			{Txn: math.MinInt, Op: math.MinInt, Key: math.MinInt, List: []int{math.MinInt, 4}, Own: []int{math.MaxInt}},
		} {
			testKind(t, x, what{}, r)
		}
		for _, key := range []int{0, 1, -1, math.MinInt, math.MaxInt} {
			s := reads.Sound(x, key)
			if s == nil {
				t.Fatal("Sound is nil")
			}
			testWanted(t, s, nil)
		}
		if l := reads.Find(x); len(l) != 0 {
			t.Error(l)
		}
	}
	if kind, v := reads.Kind(nil, table.Read{List: []int{7, 0}}); kind != api.Unborn || v != 7 {
		t.Error(kind, v)
	}
	if kind, v := reads.Kind(nil, table.Read{Own: []int{6, 4}}); kind != api.Inner || v != 6 {
		t.Error(kind, v)
	}
}

// R3: a read's lists are not changed, nor what stands behind them.
func TestReadStays(t *testing.T) {
	h := of(done(3, appendOf(1, 5), readOf(1), appendOf(1, 7)), done(2, appendOf(1, 3)))
	x := newTable(t, h)
	eachList([]int{3, 5, 7, 8}, 3, func(l []int) {
		r := table.Read{Txn: 3, Op: 1, Key: 1, List: spare(l...), Own: spare(5)}
		before := copyOfRead(r)
		reads.Kind(x, r)
		reads.Front(r)
		if !sameRead(r, before) || !slices.Equal(r.List[len(l):len(l)+3], []int{-7, -8, -9}) || !slices.Equal(r.Own[1:4], []int{-7, -8, -9}) {
			t.Fatal("what was handed in is changed", r, before)
		}
	})
}

// R3: what is answered is nobody else's: what is done to it reaches neither the read, nor the table, nor another answer.
func TestAnswersAreApart(t *testing.T) {
	spoil := func(lists ...[]int) {
		for _, l := range lists {
			l = l[:cap(l)]
			for k := range l {
				l[k] = 77
			}
		}
	}
	for n := range 4 {
		r := table.Read{List: spare(1, 2, 3), Own: slices.Repeat([]int{9}, n)}
		spoil(reads.Front(r), append(reads.Front(r), 66))
		if !slices.Equal(r.List[:6], []int{1, 2, 3, -7, -8, -9}) {
			t.Fatal("what is done to a front reaches the read", r.List[:6])
		}
	}
	h := parse(t, "t 7 c\na 1 3\na 1 4\nr 1 3 4\nr 1 4 3\nr 1 3 4\nt 9 c\nr 1 3\nr 1 8\n")
	before := copyOf(h)
	x := newTable(t, h)
	all := reads.Sound(x, 1)
	want, own := slices.Collect(all), slices.Collect(all)
	for r := range all {
		spoil(r.List, r.Own)
	}
	for _, r := range own {
		spoil(r.List, r.Own)
	}
	found := reads.Find(x)
	for k := range found {
		found[k] = api.Finding{Kind: 77}
	}
	testWanted(t, all, want)
	testAll(t, h)
	testFind(t, x, what{h}.find())
	if len(want) != 3 || !reflect.DeepEqual(h, before) {
		t.Error("what is done to an answer reaches the history", want, h)
	}
}

// R4: what was asked of one table changes nothing of it, nor of another one.
func TestApart(t *testing.T) {
	r := rand.New(rand.NewPCG(13, 5))
	for range 60 {
		h, g := someHistory(r, 4, 6), someHistory(r, 4, 6)
		x, y := newTable(t, h), newTable(t, g)
		sound := reads.Sound(x, 0)
		for range 2 {
			testFind(t, x, what{h}.find())
			testFind(t, y, what{g}.find())
			testWanted(t, sound, what{h}.sound(0))
			testSound(t, y, 0, what{g}.sound(0))
		}
		for _, read := range (what{h}).all() {
			testKind(t, y, what{g}, read) // another table's read is one that no history has
		}
	}
}

// R4: in which order the transactions stand in the history does not count.
func TestAnyOrder(t *testing.T) {
	r := rand.New(rand.NewPCG(13, 6))
	for range 60 {
		h := someHistory(r, 6, 6)
		want := reads.Find(newTable(t, h))
		other := copyOf(h)
		slices.Reverse(other.Txns)
		testFind(t, newTable(t, other), want)
		r.Shuffle(len(other.Txns), func(i, k int) { other.Txns[i], other.Txns[k] = other.Txns[k], other.Txns[i] })
		testFind(t, newTable(t, other), want)
		testAll(t, other)
	}
}
