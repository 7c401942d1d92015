package encode_test

import (
	"bytes"
	"math"
	"math/rand/v2"
	"slices"
	"strconv"
	"strings"
	"testing"

	"coroner/api"
	"coroner/encode"
	"coroner/history"
)

// of is a history of some transactions.
func of(txns ...api.Txn) api.History { return api.History{Txns: txns} }

// one is a history of one transaction that did some operations.
func one(ops ...api.Op) api.History { return of(api.Txn{Ops: ops}) }

func appendOf(key, value int) api.Op { return api.Op{Key: key, Value: value} }

func readOf(key int, list ...int) api.Op { return api.Op{Read: true, Key: key, List: list} }

// testError holds what all calls answer of a history that has an error.
func testError(t *testing.T, h api.History, e api.Errno) {
	t.Helper()
	if got := encode.Check(h); got != e {
		t.Errorf("Check of %.200q is %d, not %d", brief(h), int(got), int(e))
	}
	if b, got := encode.Encode(h); len(b) != 0 || got != e {
		t.Errorf("Encode of %.200q is %.60q, %d, not error %d", brief(h), b, int(got), int(e))
	}
	if n := encode.Size(h); n != 0 {
		t.Errorf("Size of %.200q is %d beside error %d", brief(h), n, int(e))
	}
}

// testBytes holds what all calls answer of a history that may be, and that it comes back from its bytes.
func testBytes(t *testing.T, h api.History, want string) {
	t.Helper()
	if e := encode.Check(h); e != api.OK {
		t.Errorf("Check of %.200q is %d", brief(h), int(e))
	}
	if b, e := encode.Encode(h); string(b) != want || e != api.OK {
		t.Errorf("Encode of %.200q is %.200q, %d, not %.200q", brief(h), b, int(e), want)
	}
	if n := encode.Size(h); n != len(want) {
		t.Errorf("Size of %.200q is %d, not %d", brief(h), n, len(want))
	}
	if g, e, at := history.Decode([]byte(want), api.MaxOps); e != api.OK || !history.Same(g, h) {
		t.Errorf("%.200q comes back as %.200q, error %d at %d", want, brief(g), int(e), at)
	}
}

// brief is a history in words, whether it may be or not.
func brief(h api.History) string {
	var s strings.Builder
	for _, x := range h.Txns {
		s.WriteString("txn " + strconv.Itoa(x.ID) + " " + strconv.FormatBool(x.Aborted) + ":")
		for _, o := range x.Ops {
			s.WriteString(" " + strconv.FormatBool(o.Read) + "," + strconv.Itoa(o.Key) + "," + strconv.Itoa(o.Value) + "," + strconv.Itoa(len(o.List)))
		}
		s.WriteString("; ")
	}
	return s.String()
}

// numbersMay are such as may be, at both ends, and of each width.
func numbersMay() []int {
	l := []int{0, 1, api.MaxNumber - 1, api.MaxNumber}
	for n := 10; n < api.MaxNumber; n *= 10 {
		l = append(l, n-1, n, n+1)
	}
	return l
}

// numbersNot are such as may not be; some of them may, if but 32 bits, or a byte, are looked at.
func numbersNot() []int {
	return []int{-1, -2, -10, -256, math.MinInt32, math.MinInt32 - 1, -1 << 32, math.MinInt, math.MinInt + 1, api.MaxNumber + 1, 1<<31 + 1, 1<<32 - 1, 1 << 32, 1<<32 + 1, 9999999999, math.MaxInt}
}

// P4.2: the bytes of histories, by the form of chapter 3.
func TestBytes(t *testing.T) {
	testBytes(t, of(), "")
	testBytes(t, of(api.Txn{ID: 7, Ops: []api.Op{readOf(1, 5)}}), "t 7 c\nr 1 5\n")
	testBytes(t, of(api.Txn{}), "t 0 c\n")
	testBytes(t, of(api.Txn{Aborted: true}), "t 0 a\n")
	testBytes(t, one(appendOf(0, 0)), "t 0 c\na 0 0\n")
	testBytes(t, one(readOf(0)), "t 0 c\nr 0\n")
	testBytes(t, one(readOf(0, 0)), "t 0 c\nr 0 0\n")
	testBytes(t, one(readOf(3, 2, 2, 0, 2147483647, 2)), "t 0 c\nr 3 2 2 0 2147483647 2\n")
	testBytes(t, of(api.Txn{ID: 3}, api.Txn{ID: 1}, api.Txn{ID: 2, Aborted: true}, api.Txn{}), "t 3 c\nt 1 c\nt 2 a\nt 0 c\n")
	testBytes(t, of(
		api.Txn{ID: 20, Ops: []api.Op{appendOf(1, 30), readOf(4), appendOf(30, 1), appendOf(1, 2)}},
		api.Txn{ID: 100, Aborted: true, Ops: []api.Op{appendOf(2147483647, 2147483647), readOf(2147483647, 5, 60)}},
	), "t 20 c\na 1 30\nr 4\na 30 1\na 1 2\nt 100 a\na 2147483647 2147483647\nr 2147483647 5 60\n")
}

// P4.1, P4.2: numbers that may be, of each width, at each place where a number stands.
func TestNumbers(t *testing.T) {
	for _, n := range numbersMay() {
		s := strconv.Itoa(n)
		testBytes(t, of(api.Txn{ID: n}), "t "+s+" c\n")
		testBytes(t, one(appendOf(n, 8)), "t 0 c\na "+s+" 8\n")
		testBytes(t, one(appendOf(8, n)), "t 0 c\na 8 "+s+"\n")
		testBytes(t, one(appendOf(n, n)), "t 0 c\na "+s+" "+s+"\n")
		testBytes(t, one(readOf(n)), "t 0 c\nr "+s+"\n")
		testBytes(t, one(readOf(n, n, 8)), "t 0 c\nr "+s+" "+s+" 8\n")
		testBytes(t, one(readOf(8, 8, n)), "t 0 c\nr 8 8 "+s+"\n")
	}
}

// P4.1: numbers that may not be, at each place where a number stands.
func TestNumbersThatMayNotBe(t *testing.T) {
	for _, n := range numbersNot() {
		testError(t, of(api.Txn{ID: n}), api.ErrArg)
		testError(t, of(api.Txn{ID: n, Aborted: true}), api.ErrArg)
		testError(t, of(api.Txn{ID: 8}, api.Txn{ID: n}), api.ErrArg)
		testError(t, one(appendOf(n, 8)), api.ErrArg)
		testError(t, one(appendOf(8, n)), api.ErrArg)
		testError(t, one(appendOf(n, n)), api.ErrArg)
		testError(t, one(readOf(n)), api.ErrArg)
		testError(t, one(readOf(n, 8)), api.ErrArg)
		testError(t, one(readOf(8, n)), api.ErrArg)
		testError(t, one(readOf(8, n, 8)), api.ErrArg)
		testError(t, one(readOf(8, 8, 8, n)), api.ErrArg)
		testError(t, of(api.Txn{Aborted: true, Ops: []api.Op{appendOf(1, 1), readOf(1, n)}}), api.ErrArg)
	}
}

// P4.1: an append has no list, and a read's Value is 0.
func TestOpsThatMayNotBe(t *testing.T) {
	for _, l := range [][]int{{0}, {1}, {-1}, {1, 2, 3}} {
		testError(t, one(api.Op{Key: 1, Value: 2, List: l}), api.ErrArg)
		testError(t, one(api.Op{List: l}), api.ErrArg)
	}
	for _, n := range append(numbersNot(), numbersMay()[1:]...) {
		testError(t, one(api.Op{Read: true, Key: 1, Value: n}), api.ErrArg)
		testError(t, one(api.Op{Read: true, Key: 1, Value: n, List: []int{n}}), api.ErrArg)
		testError(t, one(api.Op{Read: true, Key: 1, Value: n, List: []int{0}}), api.ErrArg)
	}
}

// P4.1, R3: no list and an empty one are one, at each place where a list stands.
func TestEmptyLists(t *testing.T) {
	for _, l := range [][]int{nil, {}, make([]int, 0, 3), make([]int, 3)[:0]} {
		testBytes(t, one(api.Op{Key: 1, Value: 2, List: l}), "t 0 c\na 1 2\n")
		testBytes(t, one(api.Op{Read: true, Key: 1, List: l}), "t 0 c\nr 1\n")
	}
	testBytes(t, of(api.Txn{ID: 1, Ops: []api.Op{}}, api.Txn{ID: 2, Ops: make([]api.Op, 2)[:0]}), "t 1 c\nt 2 c\n")
	testBytes(t, api.History{Txns: []api.Txn{}}, "")
	testBytes(t, api.History{Txns: make([]api.Txn, 2)[:0]}, "")
}

// P4.1: a transaction's number that an earlier one has.
func TestTwin(t *testing.T) {
	for _, n := range numbersMay() {
		testError(t, of(api.Txn{ID: n}, api.Txn{ID: n}), api.ErrTwin)
		testError(t, of(api.Txn{ID: n}, api.Txn{ID: 5}, api.Txn{ID: 6}, api.Txn{ID: n, Aborted: true}), api.ErrTwin)
		testError(t, of(api.Txn{ID: 5}, api.Txn{ID: n, Aborted: true}, api.Txn{ID: n}), api.ErrTwin)
		testError(t, of(api.Txn{ID: n, Aborted: true, Ops: []api.Op{appendOf(1, 2)}}, api.Txn{ID: n, Aborted: true, Ops: []api.Op{appendOf(1, 3)}}), api.ErrTwin)
	}
	testBytes(t, of(api.Txn{ID: 1, Ops: []api.Op{appendOf(2, 3)}}, api.Txn{ID: 2}, api.Txn{ID: 3}), "t 1 c\na 2 3\nt 2 c\nt 3 c\n")
}

// P4.1: a value that its key got already, by whichever transaction.
func TestValue(t *testing.T) {
	for _, n := range numbersMay() {
		testError(t, one(appendOf(n, 5), appendOf(n, 5)), api.ErrValue)
		testError(t, one(appendOf(5, n), appendOf(6, n), readOf(5, n), appendOf(5, n)), api.ErrValue)
	}
	for k := range 4 {
		x := api.Txn{ID: 1, Aborted: k%2 == 1, Ops: []api.Op{appendOf(7, 8), appendOf(7, 9)}}
		y := api.Txn{ID: 2, Aborted: k/2 == 1, Ops: []api.Op{appendOf(7, 8)}}
		testError(t, of(x, y), api.ErrValue)
		testError(t, of(y, api.Txn{}, x), api.ErrValue)
	}
	for _, s := range []string{
		"a 1 2\na 2 1\n",               // the other way round
		"a 1 2\na 3 2\na 1 3\n",        // to another key, and another value
		"r 1 2\na 1 2\nr 1 2\nr 1 2\n", // what was read, and is read again
		"a 1 23\na 12 3\n",             // the same digits
		"a 0 65536\na 1 0\n", "a 0 2147483647\na 2147483647 0\na 2147483647 2147483647\n",
	} {
		h, e, _ := history.Decode([]byte("t 0 a\n"+s), 9)
		if e != api.OK {
			t.Fatal(s, e)
		}
		testBytes(t, h, "t 0 a\n"+s)
	}
}

// P4.1: how many transactions there may be; too many are told ahead of all else.
func TestTooManyTxns(t *testing.T) {
	txns := make([]api.Txn, 2000)
	var want strings.Builder
	for i := range txns {
		txns[i].ID = i
		if i < 1024 {
			want.WriteString("t " + strconv.Itoa(i) + " c\n")
		}
	}
	testBytes(t, of(txns[:1024]...), want.String())
	for _, n := range []int{1025, 1026, 2000} {
		testError(t, of(txns[:n]...), api.ErrSize)
	}
	for _, fault := range []api.Txn{{ID: -1}, {ID: 1}, {ID: 3000, Ops: []api.Op{appendOf(-1, 0)}}, {ID: 3000, Ops: []api.Op{appendOf(0, 0), appendOf(0, 0)}}} {
		with := append([]api.Txn{txns[1], fault}, txns[5:1028]...)
		testError(t, of(with...), api.ErrSize)
		if e := encode.Check(of(with[:1024]...)); e == api.ErrSize || e == api.OK {
			t.Errorf("of as many as may be, one with a fault: %d", int(e))
		}
	}
}

// P4.1: how many operations there may be in all transactions; too many are told ahead of all else.
func TestTooManyOps(t *testing.T) {
	ops := make([]api.Op, 5000)
	var want strings.Builder
	for i := range ops {
		ops[i] = appendOf(0, i)
		if i < 4096 {
			want.WriteString("a 0 " + strconv.Itoa(i) + "\n")
		}
	}
	whole, from := want.String(), strings.Index(want.String(), "a 0 1000\n")
	testBytes(t, one(ops[:4096]...), "t 0 c\n"+whole)
	testError(t, one(ops[:4097]...), api.ErrSize)
	testError(t, one(ops...), api.ErrSize)
	split := func(n int) api.History {
		return of(api.Txn{ID: 3, Ops: ops[:1000]}, api.Txn{ID: 4}, api.Txn{ID: 5, Aborted: true, Ops: ops[1000:n]})
	}
	testBytes(t, split(4096), "t 3 c\n"+whole[:from]+"t 4 c\nt 5 a\n"+whole[from:])
	testError(t, split(4097), api.ErrSize)
	for _, fault := range []api.Op{appendOf(-1, 0), appendOf(0, 1), readOf(0, -1)} {
		with := append([]api.Op{fault}, ops...)
		testError(t, one(with[:4097]...), api.ErrSize)
		testError(t, of(api.Txn{ID: -1}, api.Txn{ID: -1, Ops: with[:4097]}), api.ErrSize)
		if e := encode.Check(one(with[:4096]...)); e == api.ErrSize || e == api.OK {
			t.Errorf("of as many as may be, one with a fault: %d", int(e))
		}
	}
	reads := slices.Repeat([]api.Op{readOf(1)}, 4097)
	testBytes(t, one(reads[:4096]...), "t 0 c\n"+strings.Repeat("r 1\n", 4096))
	testError(t, one(reads...), api.ErrSize)
}

// fill is a transaction whose line, with that of its one read, is n bytes; some values are wide.
func fill(id, n int) (api.Txn, string) {
	s := "t " + strconv.Itoa(id) + " c\nr 0" + strings.Repeat(" 2147483647", 3)
	list := slices.Repeat([]int{2147483647}, 3)
	if (n-len(s))%2 == 0 {
		s, list = s+" 10", append(list, 10)
	}
	more := (n - len(s) - 1) / 2
	return api.Txn{ID: id, Ops: []api.Op{readOf(0, append(list, make([]int, more)...)...)}}, s + strings.Repeat(" 0", more) + "\n"
}

// P4.1: how many bytes there may be; too many are told behind all else.
func TestTooManyBytes(t *testing.T) {
	for _, n := range []int{api.MaxBytes - 1, api.MaxBytes} {
		x, s := fill(1, n)
		if len(s) != n {
			t.Fatal(len(s), n)
		}
		testBytes(t, of(x), s)
		x, s = fill(1, n-6)
		testBytes(t, of(x, api.Txn{ID: 2}), s+"t 2 c\n")
		x, s = fill(1, n/2)
		y, r := fill(2, n-n/2)
		testBytes(t, of(x, y), s+r)
	}
	for _, n := range []int{api.MaxBytes + 1, api.MaxBytes + 2, api.MaxBytes + 256, 2 * api.MaxBytes, 1 << 21} {
		x, _ := fill(1, n)
		testError(t, of(x), api.ErrSize)
		testError(t, of(x, api.Txn{ID: -1}), api.ErrArg)
		testError(t, of(x, api.Txn{ID: 1}), api.ErrTwin)
		testError(t, of(x, api.Txn{ID: 2, Ops: []api.Op{appendOf(0, -1)}}), api.ErrArg)
		testError(t, of(x, api.Txn{ID: 2, Ops: []api.Op{appendOf(0, 1), appendOf(0, 1)}}), api.ErrValue)
		x.Ops[0].List[len(x.Ops[0].List)-1] = -1
		testError(t, of(x), api.ErrArg)
		x, _ = fill(1, n-6)
		testError(t, of(api.Txn{ID: 2}, x), api.ErrSize)
		x, _ = fill(1, n/2)
		y, _ := fill(2, n-n/2)
		testError(t, of(x, y), api.ErrSize)
	}
}

// P4.1: bytes of appends and of transactions' lines count, too.
func TestBytesOfAllLines(t *testing.T) {
	ops := make([]api.Op, 4096)
	for i := range ops {
		ops[i] = appendOf(api.MaxNumber, api.MaxNumber-i) // 24 bytes each
	}
	s := func(n int) string {
		return "t 2147483647 c\n" + strings.Repeat("a 2147483647 2147483647\n", n)
	}
	h := of(api.Txn{ID: api.MaxNumber, Ops: ops})
	if got := encode.Size(h); got != len(s(4096)) {
		t.Errorf("Size is %d, not %d", got, len(s(4096)))
	}
	rest, _ := fill(1, api.MaxBytes-len(s(4095)))
	h = of(api.Txn{ID: api.MaxNumber, Ops: ops[:4095]}, rest)
	if got := encode.Size(h); got != api.MaxBytes {
		t.Errorf("Size is %d, not %d", got, api.MaxBytes)
	}
	h.Txns[1].ID = 10
	testError(t, h, api.ErrSize)
	h.Txns[1].ID = 9
	h.Txns = append(h.Txns, api.Txn{ID: 8})
	testError(t, h, api.ErrSize)
}

// fault is something that is made wrong at a place of a history; of several that is told that stands first.
type fault struct {
	txn, op, rank int // an op of -1 is the transaction's line
	e             api.Errno
	put           func(h *api.History)
}

// base is a history anew, without an error.
func base() api.History {
	return of(
		api.Txn{ID: 4, Ops: []api.Op{appendOf(1, 1), readOf(1, 1, 2), appendOf(1, 2)}},
		api.Txn{ID: 2, Aborted: true, Ops: []api.Op{readOf(2, 3), appendOf(2, 1), appendOf(2, 3)}},
		api.Txn{ID: 9, Ops: []api.Op{appendOf(3, 1), appendOf(1, 3), readOf(3)}},
	)
}

// opFaults are what can be wrong with an operation of base.
func opFaults(i, j int) []fault {
	put := func(do func(o *api.Op)) func(h *api.History) {
		return func(h *api.History) { do(&h.Txns[i].Ops[j]) }
	}
	all := []fault{
		{i, j, 0, api.ErrArg, put(func(o *api.Op) { o.Key = -1 })},
		{i, j, 0, api.ErrArg, put(func(o *api.Op) { o.Key = 1 << 31 })},
	}
	if base().Txns[i].Ops[j].Read {
		return append(all,
			fault{i, j, 0, api.ErrArg, put(func(o *api.Op) { o.Value = 1 })},
			fault{i, j, 0, api.ErrArg, put(func(o *api.Op) { o.List = []int{1, 1 << 31} })},
		)
	}
	all = append(all,
		fault{i, j, 0, api.ErrArg, put(func(o *api.Op) { o.Value = -1 })},
		fault{i, j, 0, api.ErrArg, put(func(o *api.Op) { o.List = []int{1} })},
	)
	if i+j > 0 {
		all = append(all, fault{i, j, 1, api.ErrValue, put(func(o *api.Op) { o.Key, o.Value = 1, 1 })})
	}
	return all
}

// faults are what can be wrong with base, those that stand first ahead.
func faults() []fault {
	var all []fault
	for i := range base().Txns {
		all = append(all, fault{i, -1, 0, api.ErrArg, func(h *api.History) { h.Txns[i].ID = -5 }})
		all = append(all, fault{i, -1, 0, api.ErrArg, func(h *api.History) { h.Txns[i].ID = 1 << 31 }})
		if i > 0 {
			all = append(all, fault{i, -1, 1, api.ErrTwin, func(h *api.History) { h.Txns[i].ID = base().Txns[i-1].ID }})
		}
		for j := range base().Txns[i].Ops {
			all = append(all, opFaults(i, j)...)
		}
	}
	return all
}

// P4.1: of all pairs of faults that is told that stands first, in whichever order they came in.
func TestFirst(t *testing.T) {
	testBytes(t, base(), "t 4 c\na 1 1\nr 1 1 2\na 1 2\nt 2 a\nr 2 3\na 2 1\na 2 3\nt 9 c\na 3 1\na 1 3\nr 3\n")
	all := faults()
	if len(all) < 40 {
		t.Fatal(len(all))
	}
	for i, a := range all {
		h := base()
		a.put(&h)
		testError(t, h, a.e)
		for _, b := range all[i+1:] {
			if a.txn == b.txn && a.op == b.op {
				continue
			}
			for _, both := range [][2]fault{{a, b}, {b, a}} {
				h := base()
				both[0].put(&h)
				both[1].put(&h)
				testError(t, h, a.e)
			}
		}
	}
}

// P4.1: within an operation ErrArg comes ahead of ErrValue.
func TestArgAheadOfValue(t *testing.T) {
	testError(t, one(appendOf(1, 1), api.Op{Key: 1, Value: 1, List: []int{1}}), api.ErrArg)
	testError(t, one(appendOf(-1, 1), appendOf(-1, 1)), api.ErrArg)
	testError(t, of(api.Txn{ID: -1}, api.Txn{ID: -1}), api.ErrArg)
}

// eachRow goes through all rows of some lines, up to a length.
func eachRow(lines []string, most int, do func(s string)) {
	var grow func(s string, n int)
	grow = func(s string, n int) {
		do(s)
		if n < most {
			for _, x := range lines {
				grow(s+x, n+1)
			}
		}
	}
	grow("", 0)
}

// P4.3: bytes without a violation are those of their history.
func TestBytesComeBack(t *testing.T) {
	whole := 0
	eachRow([]string{"t 0 c\n", "t 10 a\n", "t 7 c\n", "a 0 1\n", "a 10 0\n", "r 0\n", "r 20 10 1 0\n"}, 5, func(s string) {
		h, e, _ := history.Decode([]byte(s), api.MaxOps)
		if e != api.OK {
			return
		}
		whole++
		testBytes(t, h, s)
	})
	if whole < 2000 {
		t.Error(whole)
	}
}

// anyNumber is one that may be, of any width, or, at some odds, one that may not be.
func anyNumber(random *rand.Rand, odds int) int {
	if odds > 0 && random.IntN(odds) == 0 {
		l := numbersNot()
		return l[random.IntN(len(l))]
	}
	return random.IntN(1 << (1 + random.IntN(31)))
}

// anyHistory is one of all kinds, with faults at some odds.
func anyHistory(random *rand.Rand, odds int) api.History {
	var h api.History
	for range random.IntN(5) {
		x := api.Txn{ID: anyNumber(random, odds), Aborted: random.IntN(3) == 0}
		for range random.IntN(6) {
			o := api.Op{Key: anyNumber(random, odds)}
			if random.IntN(2) == 0 {
				o.Read = true
				for range random.IntN(4) {
					o.List = append(o.List, anyNumber(random, odds))
				}
			} else {
				o.Value = anyNumber(random, odds)
			}
			x.Ops = append(x.Ops, o)
		}
		h.Txns = append(h.Txns, x)
	}
	return h
}

// P4.3, R4: a history that may be comes back from its bytes, and Check, Encode and Size agree of all.
func TestHistoriesComeBack(t *testing.T) {
	random := rand.New(rand.NewPCG(4, 1))
	may := 0
	for i := range 20000 {
		h := anyHistory(random, 30*(i%2))
		e := encode.Check(h)
		b, be := encode.Encode(h)
		if be != e || encode.Size(h) != len(b) || e != api.OK && len(b) != 0 {
			t.Fatalf("%q: Check %d, Encode %q, %d, Size %d", brief(h), int(e), b, int(be), encode.Size(h))
		}
		if e != api.OK {
			continue
		}
		may++
		g, e, at := history.Decode(b, api.MaxOps)
		if e != api.OK || !history.Same(g, h) {
			t.Fatalf("%q comes back from %q as %q, error %d at %d", brief(h), b, brief(g), int(e), at)
		}
	}
	if may < 5000 || may > 19000 {
		t.Error(may)
	}
}

// R3: what is handed in stays as it is, its spare room too, and what is answered is nobody else's.
func TestShareNothing(t *testing.T) {
	const s = "t 4 c\na 1 1\nr 1 1 2\nt 2 c\n"
	room := func() api.History {
		list := []int{1, 2, 77, 78}
		ops := []api.Op{appendOf(1, 1), readOf(1, list[:2]...), appendOf(-1, -1), readOf(7, 7)}
		txns := []api.Txn{{ID: 4, Ops: ops[:2]}, {ID: 2}, {ID: -3}, {ID: -4}}
		return of(txns[:2]...)
	}
	same := func(h api.History) bool {
		a, b := of(h.Txns[:4]...), of(room().Txns[:4]...)
		a.Txns, b.Txns = slices.Clone(a.Txns), slices.Clone(b.Txns)
		a.Txns[0].Ops, b.Txns[0].Ops = slices.Clone(a.Txns[0].Ops[:4]), slices.Clone(b.Txns[0].Ops[:4])
		a.Txns[0].Ops[1].List, b.Txns[0].Ops[1].List = a.Txns[0].Ops[1].List[:4], b.Txns[0].Ops[1].List[:4]
		return history.Same(a, b)
	}
	h := room()
	first, e := encode.Encode(h)
	second, _ := encode.Encode(h)
	if string(first) != s || string(second) != s || e != api.OK || encode.Check(h) != api.OK || encode.Size(h) != len(s) || !same(h) {
		t.Fatal(string(first), string(second), e, h)
	}
	for i := range first[:cap(first)] {
		first[:cap(first)][i] = 'x'
	}
	if third, _ := encode.Encode(h); string(second) != s || string(third) != s || !same(h) {
		t.Errorf("an answer changed with another one: %q, %q", second, third)
	}
	h.Txns[0].ID, h.Txns[0].Ops[1].List[0] = 5, 6
	if string(second) != s {
		t.Errorf("an answer changed with the history: %q", second)
	}
	h = room()
	h.Txns[1].ID = 4
	testError(t, h, api.ErrTwin)
	if h.Txns[1].ID = 2; !same(h) {
		t.Errorf("a refused call changed %q", brief(h))
	}
}

// R4: what is answered hangs on no call ahead.
func TestSameAgain(t *testing.T) {
	var was []byte
	for range 3 {
		b, e := encode.Encode(base())
		if e != api.OK || was != nil && !bytes.Equal(b, was) {
			t.Errorf("%q, %d", b, int(e))
		}
		was = b
		testError(t, one(appendOf(1, 1), appendOf(1, 1)), api.ErrValue)
		testError(t, of(api.Txn{}, api.Txn{}), api.ErrTwin)
		testBytes(t, one(appendOf(1, 1)), "t 0 c\na 1 1\n")
	}
}
