package bits_test

import (
	"fmt"
	"iter"
	"math"
	"math/rand/v2"
	"slices"
	"testing"

	"coroner/bits"
)

// of is a set with a room, and numbers.
func of(room int, l ...int) *bits.Bits {
	b := bits.New(room)
	b.Put(l...)
	return b
}

// those are the numbers from 0 up to a room for which a question holds.
func those(room int, ask func(k int) bool) []int {
	var out []int
	for k := range room {
		if ask(k) {
			out = append(out, k)
		}
	}
	return out
}

// held are those of a list's numbers for which there is room, each once, rising.
func held(room int, l []int) []int {
	return those(room, func(k int) bool { return slices.Contains(l, k) })
}

// part are the numbers whose bits a number has.
func part(numbers []int, k int) []int {
	var out []int
	for i, x := range numbers {
		if k>>i&1 == 1 {
			out = append(out, x)
		}
	}
	return out
}

// first are the first n numbers that are gone through, or all, if there are not so many.
func first(all iter.Seq[int], n int) []int {
	var out []int
	if n == 0 {
		return nil
	}
	for k := range all {
		out = append(out, k)
		if len(out) == n {
			break
		}
	}
	return out
}

// wrong are numbers for which no set has room.
func wrong() []int {
	return []int{math.MinInt, math.MinInt + 1, -1 << 32, -1 << 16, -65, -64, -63, -1, 1 << 16, 1<<16 + 1, 1 << 32, math.MaxInt - 63, math.MaxInt - 1, math.MaxInt}
}

// testList holds a set's room and list against what they should be.
func testList(t *testing.T, b *bits.Bits, room int, want []int) {
	t.Helper()
	if l := b.List(); !slices.Equal(l, want) || b.Count() != len(want) || b.Room() != room {
		t.Errorf("the set has %v, %d numbers, room for %d, not %v, room for %d", l, b.Count(), b.Room(), want, room)
	}
}

// testBits asks a set all that can be asked of one alone; want is rising.
func testBits(t *testing.T, b *bits.Bits, room int, want []int) {
	t.Helper()
	testList(t, b, room, want)
	at := 0
	for k := range room + 130 {
		for at < len(want) && want[at] < k {
			at++
		}
		next := -1
		if at < len(want) {
			next = want[at]
		}
		if b.Has(k) != (next == k) || b.Next(k) != next {
			t.Errorf("of %v, with room for %d: Has of %d is %t, Next is %d", want, room, k, b.Has(k), b.Next(k))
		}
	}
	for _, k := range wrong() {
		next := -1
		if k < 0 && len(want) > 0 {
			next = want[0]
		}
		if b.Has(k) || b.Next(k) != next {
			t.Errorf("of %v, with room for %d: Has of %d is %t, Next is %d", want, room, k, b.Has(k), b.Next(k))
		}
	}
	all := b.All()
	for n := range min(len(want), 5) + 2 {
		if l := first(all, n); !slices.Equal(l, want[:min(n, len(want))]) {
			t.Errorf("of %v the first %d are gone through as %v", want, n, l)
		}
	}
	if l := slices.Collect(all); !slices.Equal(l, want) {
		t.Errorf("%v is gone through as %v", want, l)
	}
	testList(t, b.Clone(), room, want)
	testList(t, b, room, want)
}

// rooms are at the borders of words.
func rooms() []int { return []int{0, 1, 2, 63, 64, 65, 100, 127, 128, 129, 192, 200} }

// P6.1: sets that are empty, and such as have all, with room for as many as there may be.
func TestNew(t *testing.T) {
	for n := range 260 {
		testBits(t, bits.New(n), n, nil)
		testBits(t, bits.Full(n), n, those(n, func(int) bool { return true }))
	}
	for n, room := range map[int]int{
		math.MinInt: 0, math.MinInt + 1: 0, -1 << 16: 0, -65: 0, -64: 0, -2: 0, -1: 0,
		1<<16 - 65: 1<<16 - 65, 1<<16 - 1: 1<<16 - 1, 1 << 16: 1 << 16, 1<<16 + 1: 1 << 16, 1 << 17: 1 << 16, 1 << 32: 1 << 16, math.MaxInt - 62: 1 << 16, math.MaxInt: 1 << 16,
	} {
		testList(t, bits.New(n), room, nil)
		testList(t, bits.Full(n), room, those(room, func(int) bool { return true }))
		ends := of(n, room, room-1, 0, -1)
		testList(t, ends, room, held(room, []int{0, room - 1}))
	}
}

// P6.1: what is put in, once or often, in whatever order; what has no room is left out, and the rest is not.
func TestPut(t *testing.T) {
	testBits(t, of(70, 3, 70, 9), 70, []int{3, 9})
	testBits(t, of(70), 70, nil)
	testBits(t, of(70, []int(nil)...), 70, nil)
	testBits(t, of(70, 69, 5, 69, 0, 5), 70, []int{0, 5, 69})
	testBits(t, of(2, -1, 1, 2), 2, []int{1})
	testBits(t, of(0, 0, 1), 0, nil)
	for _, room := range rooms() {
		b := of(room, wrong()...)
		testBits(t, b, room, nil)
		for k := range room + 70 {
			testList(t, of(room, k), room, held(room, []int{k}))
			b.Put(k, -k-1, k+room)
			testList(t, b, room, those(room, func(x int) bool { return x <= k }))
		}
		testBits(t, b, room, those(room, func(int) bool { return true }))
		mixed := slices.Concat(wrong(), []int{room, room - 1, room + 1, 0, room + 64, 64, 63})
		testBits(t, of(room, mixed...), room, held(room, mixed))
	}
}

// P6.1: all sets of numbers at the borders of words, with all sets of them taken out.
func TestPutDrop(t *testing.T) {
	numbers := []int{0, 1, 63, 64, 127, 128, 130}
	for _, room := range []int{0, 1, 64, 65, 128, 131} {
		for k := range 1 << len(numbers) {
			in := part(numbers, k)
			testBits(t, of(room, in...), room, held(room, in))
			for j := range 1 << len(numbers) {
				out := part(numbers, j)
				b := of(room, in...)
				b.Drop(out...)
				left := held(room, in)
				testList(t, b, room, slices.DeleteFunc(left, func(x int) bool { return slices.Contains(out, x) }))
			}
		}
	}
}

// P6.1: what is taken out, be it in the set, beyond its room, or no number of a set at all.
func TestDrop(t *testing.T) {
	b := of(130, 0, 63, 64, 129)
	b.Drop()
	b.Drop([]int(nil)...)
	b.Drop(63, 5, 999)
	testBits(t, b, 130, []int{0, 64, 129})
	b.Drop(wrong()...)
	b.Drop(130, 191, 192)
	testBits(t, b, 130, []int{0, 64, 129})
	b.Drop(129, -1, 0, 129)
	testBits(t, b, 130, []int{64})
	b.Put(63, 64)
	testBits(t, b, 130, []int{63, 64})
	for _, room := range rooms() {
		full := bits.Full(room)
		full.Drop(wrong()...)
		for k := range room {
			full.Drop(k, k+room, -1)
			testList(t, full, room, those(room, func(x int) bool { return x > k }))
		}
		testBits(t, full, room, nil)
	}
}

// P6.2: the least number from a place on, and what is told of places that are none.
func TestNext(t *testing.T) {
	b := of(200, 5, 63, 64, 199)
	for k, want := range map[int]int{math.MinInt: 5, -64: 5, -1: 5, 0: 5, 5: 5, 6: 63, 63: 63, 64: 64, 65: 199, 128: 199, 192: 199, 199: 199, 200: -1, 255: -1, 256: -1, 1 << 16: -1, math.MaxInt - 63: -1, math.MaxInt: -1} {
		if n := b.Next(k); n != want {
			t.Errorf("Next of %d is %d, not %d", k, n, want)
		}
	}
	for a := range 200 { // one number alone
		one := of(200, a)
		for k := range 200 {
			want := -1
			if k <= a {
				want = a
			}
			if n := one.Next(k); n != want {
				t.Errorf("of %d alone Next of %d is %d", a, k, n)
			}
		}
	}
	last := of(1<<16, 1<<16-1)
	if last.Next(0) != 1<<16-1 || last.Next(1<<16-1) != 1<<16-1 || last.Next(1<<16) != -1 {
		t.Error(last.List())
	}
}

// P6.2: all are gone through as long as it is wanted, again and again, and within one another.
func TestAll(t *testing.T) {
	b := of(130, 129, 64, 2)
	all := b.All()
	var l []int
	for x := range all {
		for y := range all {
			l = append(l, 1000*x+y)
		}
	}
	if want := []int{2002, 2064, 2129, 64002, 64064, 64129, 129002, 129064, 129129}; !slices.Equal(l, want) {
		t.Error(l)
	}
	for n := range 4 {
		calls := 0
		all(func(int) bool {
			calls++
			return calls < n
		})
		if want := max(n, 1); calls != want {
			t.Errorf("%d numbers are told where %d are wanted", calls, want)
		}
	}
	b.Put(0, 65)
	b.Drop(2)
	if l := slices.Collect(all); !slices.Equal(l, []int{0, 64, 65, 129}) { // as the set is when it is gone through
		t.Error(l)
	}
}

// P6.2: what changes beyond the number that was told last counts, by whatever call; what changes ahead of it does not.
func TestAllMeanwhile(t *testing.T) {
	change := func(at int, do func(b *bits.Bits)) []int {
		b := of(140, 1, 5, 9, 70, 130)
		var l []int
		for k := range b.All() {
			l = append(l, k)
			if k == at {
				do(b)
			}
		}
		return l
	}
	for k, c := range []struct {
		at   int
		do   func(b *bits.Bits)
		want []int
	}{
		{5, func(b *bits.Bits) { b.Put(6, 10, 71, 139, 140) }, []int{1, 5, 6, 9, 10, 70, 71, 130, 139}},
		{5, func(b *bits.Bits) { b.Put(0, 2, 4, 5) }, []int{1, 5, 9, 70, 130}},
		{5, func(b *bits.Bits) { b.Drop(9, 130) }, []int{1, 5, 70}},
		{5, func(b *bits.Bits) { b.Drop(1, 5) }, []int{1, 5, 9, 70, 130}},
		{5, func(b *bits.Bits) { b.Drop(5); b.Put(5, 3) }, []int{1, 5, 9, 70, 130}},
		{70, func(b *bits.Bits) { b.Put(9, 64, 69, 71, 127) }, []int{1, 5, 9, 70, 71, 127, 130}},
		{130, func(b *bits.Bits) { b.Put(129, 131) }, []int{1, 5, 9, 70, 130, 131}},
		{1, func(b *bits.Bits) { b.Drop(b.List()...) }, []int{1}},
		{1, func(b *bits.Bits) { b.Or(of(300, 0, 2, 80, 250)) }, []int{1, 2, 5, 9, 70, 80, 130}},
		{1, func(b *bits.Bits) { b.And(of(10, 0, 9)) }, []int{1, 9}},
		{1, func(b *bits.Bits) { b.Minus(of(71, 1, 5, 70)) }, []int{1, 9, 130}},
		{9, func(b *bits.Bits) { b.Clone().Put(10) }, []int{1, 5, 9, 70, 130}},
	} {
		if l := change(c.at, c.do); !slices.Equal(l, c.want) {
			t.Errorf("at %d %v is gone through, not %v", k, l, c.want)
		}
	}
	grown := of(100, 0)
	var l []int
	for k := range grown.All() {
		l = append(l, k)
		grown.Put(k+7, k-1)
	}
	if want := those(100, func(k int) bool { return k%7 == 0 }); !slices.Equal(l, want) {
		t.Error(l)
	}
}

// P6.2: rows of changes while all are gone through: what is told next is the least one then beyond the last.
func TestAllMeanwhileRows(t *testing.T) {
	r := rand.New(rand.NewPCG(6, 2))
	for range 2000 {
		room := 1 + r.IntN(150)
		b := bits.New(room)
		model := map[int]bool{}
		last := -1
		change := func() {
			for range r.IntN(5) {
				k := r.IntN(room)
				if r.IntN(2) == 0 {
					b.Put(k)
					model[k] = true
				} else {
					b.Drop(k)
					delete(model, k)
				}
			}
		}
		next := func() int {
			for k := last + 1; k < room; k++ {
				if model[k] {
					return k
				}
			}
			return -1
		}
		change()
		for k := range b.All() {
			if want := next(); k != want {
				t.Fatalf("behind %d comes %d, not %d", last, k, want)
			}
			last = k
			change()
		}
		if k := next(); k >= 0 {
			t.Fatalf("behind %d %d does not come", last, k)
		}
	}
}

// testPair holds all that is done with two sets against what is in their lists; a has room for n.
func testPair(t *testing.T, a, b *bits.Bits, n int, la, lb []int) {
	t.Helper()
	was := b.Room()
	inA := func(k int) bool { return slices.Contains(la, k) }
	inB := func(k int) bool { return slices.Contains(lb, k) }
	for _, c := range []struct {
		do  func(x, y *bits.Bits)
		ask func(k int) bool
	}{
		{(*bits.Bits).Or, func(k int) bool { return inA(k) || inB(k) }},
		{(*bits.Bits).And, func(k int) bool { return inA(k) && inB(k) }},
		{(*bits.Bits).Minus, func(k int) bool { return inA(k) && !inB(k) }},
	} {
		x := a.Clone()
		c.do(x, b)
		testList(t, x, n, those(n, c.ask))
		full := bits.Full(n) // no bit past the room came with the other one's
		full.Minus(x)
		full.Or(x)
		if full.Count() != n || !full.Same(bits.Full(n)) {
			t.Errorf("with all numbers it has %d, not %d", full.Count(), n)
		}
	}
	if a.Same(b) != slices.Equal(la, lb) || b.Same(a) != slices.Equal(la, lb) {
		t.Errorf("%v and %v: Same is %t and %t", la, lb, a.Same(b), b.Same(a))
	}
	testList(t, a, n, la)
	testList(t, b, was, lb)
}

// P6.3: all pairs of sets of numbers at the borders of words, with all pairs of rooms.
func TestPairs(t *testing.T) {
	numbers := []int{0, 62, 63, 64, 127, 128}
	for _, n := range []int{0, 1, 63, 64, 65, 128, 129} {
		for _, m := range []int{0, 1, 63, 64, 65, 128, 129} {
			for k := range 1 << len(numbers) {
				for j := range 1 << len(numbers) {
					la, lb := held(n, part(numbers, k)), held(m, part(numbers, j))
					testPair(t, of(n, la...), of(m, lb...), n, la, lb)
				}
			}
		}
	}
}

// P6.3: pairs of longer sets, of rooms far apart.
func TestPairsLong(t *testing.T) {
	r := rand.New(rand.NewPCG(6, 3))
	list := func(room int) []int {
		most := 1 + r.IntN(8)
		return those(room, func(int) bool { return r.IntN(8) < most })
	}
	for _, n := range []int{5, 64, 300, 1024} {
		for _, m := range []int{64, 130, 700, 2000} {
			for range 5 {
				la, lb := list(n), list(m)
				testPair(t, of(n, la...), of(m, lb...), n, la, lb)
				testPair(t, of(m, lb...), of(n, la...), m, lb, la)
				testPair(t, of(n, la...), bits.Full(m), n, la, those(m, func(int) bool { return true }))
			}
		}
	}
}

// P6.3: a set with itself.
func TestItself(t *testing.T) {
	for _, room := range []int{0, 64, 70, 130} {
		l := held(room, []int{0, 3, 63, 64, 69, 129})
		b := of(room, l...)
		b.Or(b)
		testBits(t, b, room, l)
		b.And(b)
		testBits(t, b, room, l)
		if !b.Same(b) {
			t.Errorf("%v is not like itself", l)
		}
		b.Minus(b)
		testBits(t, b, room, nil)
	}
}

// P6.3: a clone has the room and the numbers, and neither changes the other.
func TestClone(t *testing.T) {
	for _, room := range rooms() {
		full := bits.Full(room)
		c := full.Clone()
		if c == full {
			t.Error("a clone is the set itself")
		}
		c.Drop(0, 63, room-1)
		testBits(t, full, room, those(room, func(int) bool { return true }))
		testBits(t, c, room, those(room, func(k int) bool { return k != 0 && k != 63 && k != room-1 }))
		full.Minus(bits.Full(room))
		testBits(t, full, room, nil)
		testBits(t, c, room, those(room, func(k int) bool { return k != 0 && k != 63 && k != room-1 }))
		d := full.Clone()
		d.Put(0, room-1, room)
		testBits(t, full, room, nil)
		testBits(t, d, room, held(room, []int{0, room - 1}))
	}
}

// P6.3: sets are the same by their numbers, whatever their room, and whatever they have been through.
func TestSame(t *testing.T) {
	l := []int{2, 63}
	a := of(64, l...)
	for _, room := range []int{64, 65, 128, 1000, 1 << 16} {
		b := of(room, 5, 63)
		if a.Same(b) || b.Same(a) {
			t.Errorf("%v and %v are alike", l, b.List())
		}
		b.Drop(5)
		b.Put(2)
		if !a.Same(b) || !b.Same(a) {
			t.Errorf("%v and %v are not alike", l, b.List())
		}
		b.Put(room - 1)
		if a.Same(b) != (room == 64) || b.Same(a) != (room == 64) {
			t.Errorf("%v and %v, with room for %d", l, b.List(), room)
		}
	}
	for k := range 300 { // one number alone makes the difference
		with, without := bits.Full(300), bits.Full(300)
		without.Drop(k)
		if with.Same(without) || without.Same(with) {
			t.Errorf("%d makes no difference", k)
		}
		with.Drop(k)
		if !with.Same(without) {
			t.Errorf("without %d sets are not alike", k)
		}
	}
	if bits.Full(64).Same(bits.Full(65)) || bits.Full(65).Same(bits.Full(64)) || !bits.New(0).Same(bits.New(1<<16)) {
		t.Error("rooms")
	}
}

// P6.4, R3: nil sets are as empty ones without room, in every call, on either side.
func TestNil(t *testing.T) {
	var none *bits.Bits
	for range 2 {
		testBits(t, none, 0, nil)
		none.Put()
		none.Put(0, 1, -1, 64)
		none.Put(wrong()...)
		none.Drop(0, 1, -1, 64)
		none.Drop(wrong()...)
		none.Or(of(70, 1, 69))
		none.And(of(70, 1))
		none.Minus(of(70, 1))
		none.Or(none)
		none.And(none)
		none.Minus(none)
	}
	if none.All() == nil {
		t.Error("what goes through a nil set is nil")
	}
	c := none.Clone()
	c.Put(0)
	testBits(t, c, 0, nil)
	if !none.Same(none) || !none.Same(c) || !c.Same(none) || !none.Same(bits.New(70)) || !bits.New(70).Same(none) || none.Same(of(70, 69)) || of(70, 69).Same(none) {
		t.Error("Same of nil sets")
	}
	b := of(70, 1, 69)
	b.Or(none)
	testBits(t, b, 70, []int{1, 69})
	b.Minus(none)
	testBits(t, b, 70, []int{1, 69})
	b.And(none)
	testBits(t, b, 70, nil)
}

// P6.4, R1: a set that no call made has no room.
func TestMadeByNone(t *testing.T) {
	var b bits.Bits
	b.Put(0, 64)
	b.Drop(0, 64)
	b.Or(bits.Full(70))
	testBits(t, &b, 0, nil)
	b.And(bits.Full(70))
	b.Minus(bits.Full(70))
	if b.All() == nil || !b.Same(nil) || !b.Same(bits.New(9)) || b.Same(bits.Full(1)) {
		t.Error(b.List())
	}
	testBits(t, b.Clone(), 0, nil)
}

// P6.2, R3: what goes through an empty set is never nil.
func TestNeverNil(t *testing.T) {
	for _, b := range []*bits.Bits{bits.New(0), bits.New(70), bits.New(-1), bits.Full(0), bits.Full(-1)} {
		all := b.All()
		if all == nil {
			t.Error("nil")
			continue
		}
		for k := range all {
			t.Error(k)
		}
	}
}

// R3: lists that are handed in are left as they are, their spare room too, and are not kept.
func TestHandedIn(t *testing.T) {
	whole := []int{64, 3, 3, -1, 90, 7, 8}
	was := slices.Clone(whole)
	l := whole[:5]
	b := of(70, l...)
	c := bits.Full(70)
	c.Drop(l...)
	if !slices.Equal(whole, was) {
		t.Errorf("the list became %v", whole)
	}
	for i := range whole {
		whole[i] = 5
	}
	testBits(t, b, 70, []int{3, 64})
	testBits(t, c, 70, those(70, func(k int) bool { return k != 3 && k != 64 }))
}

// R3: what is answered is nobody else's, its spare room included; a set that is handed in is neither changed nor kept.
func TestAnswers(t *testing.T) {
	b := of(130, 1, 64, 129)
	for range 2 {
		l := b.List()
		l = l[:cap(l)]
		for i := range l {
			l[i] = 77
		}
		testBits(t, b, 130, []int{1, 64, 129})
	}
	for _, do := range []func(x, y *bits.Bits){(*bits.Bits).Or, (*bits.Bits).And, (*bits.Bits).Minus} {
		x, y := bits.Full(130), of(130, 5, 70)
		do(x, y)
		want := x.List()
		testList(t, y, 130, []int{5, 70})
		y.Put(6, 71)
		y.Drop(5)
		testList(t, x, 130, want)
		x.Put(7)
		x.Drop(70)
		testList(t, y, 130, []int{6, 70, 71})
	}
}

// R2, R4: the same calls have the same answers, whatever other sets went through.
func TestApart(t *testing.T) {
	for k := range 3 {
		a, b, full := bits.New(70), bits.New(70), bits.Full(70)
		a.Put(k, 69)
		full.Drop(k, 69)
		testBits(t, b, 70, nil)
		testBits(t, a, 70, []int{k, 69})
		testBits(t, full, 70, those(70, func(x int) bool { return x != k && x != 69 }))
		testBits(t, bits.Full(70), 70, those(70, func(int) bool { return true }))
	}
}

// P6.1 to P6.3: rows of calls on two sets, held against maps.
func TestRows(t *testing.T) {
	r := rand.New(rand.NewPCG(6, 1))
	for range 400 {
		room := [2]int{r.IntN(140), r.IntN(140)}
		sets := [2]*bits.Bits{bits.New(room[0]), bits.New(room[1])}
		models := [2]map[int]bool{{}, {}}
		var said []string
		for range 25 {
			i, call := r.IntN(2), r.IntN(6)
			o := r.IntN(2)
			l := make([]int, r.IntN(8))
			for j := range l {
				l[j] = r.IntN(220) - 40
			}
			said = append(said, fmt.Sprint(i, call, o, l))
			model := map[int]bool{}
			for k := range room[i] {
				in, other, named := models[i][k], models[o][k], slices.Contains(l, k)
				if [6]bool{in || named, in && !named, in || other, in && other, in && !other, in}[call] {
					model[k] = true
				}
			}
			switch call {
			case 0:
				sets[i].Put(l...)
			case 1:
				sets[i].Drop(l...)
			case 2:
				sets[i].Or(sets[o])
			case 3:
				sets[i].And(sets[o])
			case 4:
				sets[i].Minus(sets[o])
			case 5:
				sets[i] = sets[i].Clone()
			}
			models[i] = model
			for j := range sets {
				testList(t, sets[j], room[j], those(room[j], func(k int) bool { return models[j][k] }))
			}
			if sets[0].Same(sets[1]) != slices.Equal(sets[0].List(), sets[1].List()) {
				t.Error("Same of", sets[0].List(), sets[1].List())
			}
			if t.Failed() {
				t.Fatal(room, said)
			}
		}
	}
}

// P6.1 to P6.3: the greatest sets.
func TestMany(t *testing.T) {
	n := 1 << 16
	all := bits.Full(n)
	odd := of(n, those(n, func(k int) bool { return k%2 == 1 })...)
	even := all.Clone()
	even.Minus(odd)
	both := even.Clone()
	both.And(odd)
	sum := odd.Clone()
	sum.Or(even)
	if all.Count() != n || odd.Count() != n/2 || even.Count() != n/2 || both.Count() != 0 || !sum.Same(all) || odd.Same(even) {
		t.Error(all.Count(), odd.Count(), even.Count(), both.Count(), sum.Count())
	}
	want := 0
	for k := range even.All() {
		if k != want {
			t.Fatalf("%d stands in the place of %d", k, want)
		}
		want += 2
	}
	if want != n || even.Next(n-1) != -1 || odd.Next(n-1) != n-1 {
		t.Error(want, even.Next(n-1), odd.Next(n-1))
	}
}
