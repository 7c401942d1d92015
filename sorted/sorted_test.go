package sorted_test

import (
	"cmp"
	"iter"
	"math"
	"math/rand/v2"
	"slices"
	"strings"
	"testing"

	"coroner/sorted"
)

// word is a text of another type, which is ordered, too.
type word string

// rising is what P5.1 asks for: each thing that is more than the last one, the least of these first.
func rising[T cmp.Ordered](l []T) []T {
	var out []T
	for {
		var least T
		found := false
		for _, x := range l {
			if (len(out) == 0 || x > out[len(out)-1]) && (!found || x < least) {
				least, found = x, true
			}
		}
		if !found {
			return out
		}
		out = append(out, least)
	}
}

// those are the things of a list of which a question holds.
func those[T any](l []T, ask func(x T) bool) []T {
	var out []T
	for _, x := range l {
		if ask(x) {
			out = append(out, x)
		}
	}
	return out
}

// first are the first n things that are gone through, or all, if there are not so many.
func first[T any](all iter.Seq[T], n int) []T {
	var out []T
	if n == 0 {
		return nil
	}
	for x := range all {
		out = append(out, x)
		if len(out) == n {
			break
		}
	}
	return out
}

// testSet holds a set against the things that it should have; asked are things that may be in it or not.
func testSet[T cmp.Ordered](t *testing.T, s sorted.Set[T], want []T, asked ...T) {
	t.Helper()
	if l := s.List(); !slices.Equal(l, want) || s.Len() != len(want) {
		t.Errorf("the set has %v, %d things, not %v", l, s.Len(), want)
	}
	all := s.All()
	for n := range len(want) + 2 {
		if l := first(all, n); !slices.Equal(l, want[:min(n, len(want))]) {
			t.Errorf("of %v the first %d are gone through as %v", want, n, l)
		}
	}
	for _, x := range slices.Concat(want, asked) {
		if s.Has(x) != slices.Contains(want, x) {
			t.Errorf("%v has %v: %t", want, x, s.Has(x))
		}
		from := those(want, func(y T) bool { return y >= x })
		if l := slices.Collect(s.From(x)); !slices.Equal(l, from) {
			t.Errorf("of %v from %v on is %v", want, x, l)
		}
	}
}

// eachList goes through all lists of some things, up to a length.
func eachList[T any](things []T, most int, do func(l []T)) {
	var grow func(l []T)
	grow = func(l []T) {
		do(l)
		if len(l) < most {
			for _, x := range things {
				grow(append(slices.Clone(l), x))
			}
		}
	}
	grow(nil)
}

// numbers are at both ends, and near each other.
func numbers() []int {
	return []int{math.MinInt, math.MinInt + 1, -1 << 32, -2, -1, 0, 1, 2, 255, 256, 1 << 32, math.MaxInt - 1, math.MaxInt}
}

// P5.1: a set of some things, however they stand, and however often.
func TestOf(t *testing.T) {
	testSet(t, sorted.Of(3, 1, 3), []int{1, 3}, 0, 2, 4)
	testSet(t, sorted.Of[int](), nil, numbers()...)
	testSet(t, sorted.Of([]int(nil)...), nil, 0)
	testSet(t, sorted.Of(0), []int{0}, numbers()...)
	testSet(t, sorted.Of(7, 7, 7, 7), []int{7}, 6, 8)
	testSet(t, sorted.Of(5, 4, 3, 2, 1), []int{1, 2, 3, 4, 5}, 0, 6)
	testSet(t, sorted.Of(-1, 1, -2, 0), []int{-2, -1, 0, 1}, -3, 2)
	testSet(t, sorted.Of(math.MaxInt, 0, math.MinInt), []int{math.MinInt, 0, math.MaxInt}, numbers()...)
	eachList([]int{-1, 0, 3, 7}, 5, func(l []int) {
		testSet(t, sorted.Of(l...), rising(l), -2, -1, 0, 1, 3, 7, 8)
	})
	testSet(t, sorted.Of(slices.Concat(numbers(), numbers())...), numbers())
}

// P5.1: sets of all kinds of ordered things.
func TestKinds(t *testing.T) {
	testSet(t, sorted.Of("b", "", "a", "ab", "B", "b"), []string{"", "B", "a", "ab", "b"}, "c", "aa", "\x00")
	testSet(t, sorted.Of("\u00e9", "z", "\xff", "e"), []string{"e", "z", "\u00e9", "\xff"}, "\xc3", "\u00ea") // by their bytes
	testSet(t, sorted.Of[word]("y", "x", "y"), []word{"x", "y"}, "", "xy")
	testSet(t, sorted.Of[uint8](255, 0, 128, 127, 255), []uint8{0, 127, 128, 255}, 1, 254)
	testSet(t, sorted.Of[int8](127, -128, 0), []int8{-128, 0, 127}, -1, 1)
	testSet(t, sorted.Of[uint64](math.MaxUint64, 0, 1<<63), []uint64{0, 1 << 63, math.MaxUint64}, 1)
	testSet(t, sorted.Of('x', 'a', '\u00e9'), []rune{'a', 'x', '\u00e9'}, 'b')
	testSet(t, sorted.Of[float32](0.5, -0.5, 0.25), []float32{-0.5, 0.25, 0.5}, 0)
	testSet(t, sorted.Of(math.Inf(1), 1, math.Inf(-1), -math.MaxFloat64, math.SmallestNonzeroFloat64),
		[]float64{math.Inf(-1), -math.MaxFloat64, math.SmallestNonzeroFloat64, 1, math.Inf(1)}, 0, math.MaxFloat64)
}

// P5.1, P5.2, P5.3: the zero value is empty.
func TestNone(t *testing.T) {
	var none sorted.Set[int]
	s := sorted.Of(2, 1)
	testSet(t, none, nil, numbers()...)
	testSet(t, none.With(), nil, 0)
	testSet(t, none.With(2, 1, 2), []int{1, 2}, 0)
	testSet(t, none.Or(none), nil, 0)
	testSet(t, none.Or(s), []int{1, 2}, 0)
	testSet(t, s.Or(none), []int{1, 2}, 0)
	testSet(t, none.And(s), nil, 0, 1, 2)
	testSet(t, s.And(none), nil, 0, 1, 2)
	testSet(t, none.Minus(s), nil, 0, 1, 2)
	testSet(t, s.Minus(none), []int{1, 2}, 0)
	var text sorted.Set[string]
	testSet(t, text, nil, "", "a")
	testSet(t, text.With(""), []string{""}, "a")
}

// P5.2: a set, and some things.
func TestWith(t *testing.T) {
	testSet(t, sorted.Of(1, 3).With(2, 0, 2, 9, 3), []int{0, 1, 2, 3, 9}, -1, 4)
	testSet(t, sorted.Of("b").With("a", "c", "a"), []string{"a", "b", "c"}, "")
	eachList([]int{1, 3, 5}, 3, func(a []int) {
		eachList([]int{0, 1, 3, 6}, 3, func(b []int) {
			testSet(t, sorted.Of(a...).With(b...), rising(slices.Concat(a, b)), -1, 0, 1, 2, 3, 4, 5, 6, 7)
		})
	})
}

// testPair holds all three calls on two sets against what stands in their lists.
func testPair[T cmp.Ordered](t *testing.T, a, b []T) {
	t.Helper()
	s, u := sorted.Of(a...), sorted.Of(b...)
	both := slices.Concat(a, b)
	inB := func(x T) bool { return slices.Contains(b, x) }
	testSet(t, s.Or(u), rising(both), both...)
	testSet(t, s.And(u), rising(those(a, inB)), both...)
	testSet(t, s.Minus(u), rising(those(a, func(x T) bool { return !inB(x) })), both...)
	testSet(t, s, rising(a), both...)
	testSet(t, u, rising(b), both...)
}

// P5.2: all pairs of sets of six things, with what is in one of them, in both, and in the first one alone.
func TestPairs(t *testing.T) {
	of := func(k int) []int {
		return those([]int{-4, -1, 0, 2, 3, 8}, func(x int) bool {
			k /= 2
			return k%2 == 1
		})
	}
	for k := range 128 {
		for j := range 128 {
			testPair(t, of(k), of(j))
		}
	}
	testPair(t, numbers(), []int{math.MaxInt, 5, math.MinInt})
	testPair(t, []string{"", "a", "ab"}, []string{"a", "b", ""})
	testPair(t, []float64{math.Inf(-1), 0.5, 1}, []float64{0.5, math.Inf(1)})
}

// P5.2: longer sets, of which one has few things, and the other one many.
func TestPairsLong(t *testing.T) {
	r := rand.New(rand.NewPCG(5, 2))
	list := func(n, most int) []int {
		l := make([]int, n)
		for i := range l {
			l[i] = r.IntN(most) - most/2
		}
		return l
	}
	for _, n := range []int{1, 5, 60} {
		for _, m := range []int{1, 40, 120} {
			for _, most := range []int{10, 100, 10000} {
				testPair(t, list(n, most), list(m, most))
				testPair(t, list(m, most), list(n, most))
			}
		}
	}
}

// P5.3: from something on, be it there or not; all, or as long as it is wanted, as often as it is wanted.
func TestFrom(t *testing.T) {
	s := sorted.Of(5, 1, 3)
	for x, want := range map[int][]int{math.MinInt: {1, 3, 5}, 0: {1, 3, 5}, 1: {1, 3, 5}, 2: {3, 5}, 3: {3, 5}, 4: {5}, 5: {5}, 6: nil, math.MaxInt: nil} {
		from := s.From(x)
		for range 2 {
			for n := range 5 {
				if l := first(from, n); !slices.Equal(l, want[:min(n, len(want))]) {
					t.Errorf("the first %d from %d on are %v", n, x, l)
				}
			}
		}
	}
	if l := slices.Collect(sorted.Of("", "b").From("a")); !slices.Equal(l, []string{"b"}) {
		t.Error(l)
	}
}

// P5.3: what goes through a set is gone through within itself, too, and does not go on when it is not wanted.
func TestGoThrough(t *testing.T) {
	s := sorted.Of(2, 1, 3)
	all, from := s.All(), s.From(2)
	var pairs []int
	for x := range all {
		for y := range from {
			for z := range all {
				pairs = append(pairs, 100*x+10*y+z)
			}
		}
	}
	if want := []int{121, 122, 123, 131, 132, 133, 221, 222, 223, 231, 232, 233, 321, 322, 323, 331, 332, 333}; !slices.Equal(pairs, want) {
		t.Error(pairs)
	}
	for n := range 4 {
		calls := 0
		all(func(int) bool {
			calls++
			return calls < n
		})
		if want := max(n, 1); calls != want {
			t.Errorf("%d things are told where %d are wanted", calls, want)
		}
	}
}

// P5.3, R3: what goes through things is never nil.
func TestNeverNil(t *testing.T) {
	var none sorted.Set[string]
	for k, all := range []iter.Seq[string]{none.All(), none.From(""), none.From("x"), sorted.Of[string]().All(), sorted.Of("a").From("b"), none.And(sorted.Of("a")).All(), sorted.Of("a").Minus(sorted.Of("a")).From("")} {
		if all == nil {
			t.Errorf("nil at %d", k)
			continue
		}
		for x := range all {
			t.Errorf("%q at %d", x, k)
		}
	}
}

// wantCompare is what P5.4 asks for.
func wantCompare[T cmp.Ordered](a, b []T) int {
	if len(a) < len(b) {
		return -1
	}
	if len(a) > len(b) {
		return 1
	}
	for i := range a {
		if a[i] < b[i] {
			return -1
		}
		if a[i] > b[i] {
			return 1
		}
	}
	return 0
}

func testCompare[T cmp.Ordered](t *testing.T, a, b []T, want int) {
	t.Helper()
	if n := sorted.Compare(a, b); n != want {
		t.Errorf("Compare of %v and %v is %d, not %d", a, b, n, want)
	}
	if is := sorted.Same(a, b); is != (want == 0) {
		t.Errorf("Same of %v and %v is %t", a, b, is)
	}
}

// P5.4: how lists stand, which are gone through as they are, be they rising or not.
func TestCompare(t *testing.T) {
	testCompare(t, []int{9}, []int{1, 2}, -1)
	testCompare(t, []int{1, 2}, []int{9}, 1)
	testCompare(t, nil, []int{math.MinInt}, -1)
	testCompare(t, []int{math.MinInt}, nil, 1)
	testCompare(t, []int{math.MinInt}, []int{math.MaxInt}, -1)
	testCompare(t, []int{math.MaxInt}, []int{math.MinInt}, 1)
	testCompare(t, []int{3, 1}, []int{1, 3}, 1)
	testCompare(t, []int{1, 1}, []int{1}, 1)
	testCompare(t, []int{1, 1}, []int{1, 1}, 0)
	testCompare(t, []int{1, 3, 0}, []int{1, 2, 9}, 1)
	testCompare(t, []string{"b"}, []string{"a", ""}, -1)
	testCompare(t, []string{"a", "b"}, []string{"a", "ab"}, 1)
	testCompare(t, []string{"a", "b"}, []string{"a", "b"}, 0)
	testCompare(t, []uint8{255}, []uint8{0}, 1)
	testCompare(t, []float64{math.Inf(-1), 0.5}, []float64{math.Inf(-1), 0.25}, 1)
	testCompare(t, []word{"a"}, []word{"b"}, -1)
}

// P5.4: no list is an empty one, and the two zeros of floats are alike.
func TestCompareAlike(t *testing.T) {
	testCompare[int](t, nil, nil, 0)
	testCompare(t, nil, []int{}, 0)
	testCompare(t, []int{}, nil, 0)
	testCompare(t, []int{}, []int{}, 0)
	minus := math.Copysign(0, -1)
	testCompare(t, []float64{1, minus}, []float64{1, 0}, 0)
	testCompare(t, []float64{minus, 2}, []float64{0, 1}, 1)
}

// P5.4: all pairs of short lists.
func TestCompareAll(t *testing.T) {
	var lists [][]int
	eachList([]int{-1, 0, 5}, 4, func(l []int) { lists = append(lists, l) })
	for _, a := range lists {
		for _, b := range lists {
			testCompare(t, a, b, wantCompare(a, b))
		}
	}
}

// P5.4: lists that differ in one place alone, wherever it is.
func TestCompareOnePlace(t *testing.T) {
	a := make([]int, 50)
	for i := range a {
		a[i] = (i * 7) % 11
	}
	for i := range a {
		b := slices.Clone(a)
		b[i]++
		testCompare(t, a, b, -1)
		testCompare(t, b, a, 1)
		testCompare(t, a[:i], b, -1)
		testCompare(t, a[:i], b[:i], 0)
	}
}

// P5.5: a set is the same, however it came together: by one call, one by one in all orders, and out of greater ones.
func TestHowItCame(t *testing.T) {
	want := []int{2, 4, 6, 9}
	eachList(want, 4, func(l []int) {
		if len(rising(l)) < len(want) {
			return
		}
		a, b, c := sorted.Of(l...), sorted.Set[int]{}, sorted.Set[int]{}
		for _, x := range l {
			b = b.With(x)
			c = sorted.Of(x).Or(c)
		}
		d := sorted.Of(9, 4, 2, 6, 5, 3).Minus(sorted.Of(3).With(5))
		e := sorted.Of(2, 4, 6, 9, 1).And(a.With(7))
		f := a.Minus(sorted.Of(l[0])).With(l[0], l[1])
		for _, s := range []sorted.Set[int]{a, b, c, d, e, f} {
			testSet(t, s, want, 1, 3, 5, 7)
			if !sorted.Same(s.List(), a.List()) || sorted.Compare(s.List(), want) != 0 {
				t.Errorf("%v and %v", s.List(), a.List())
			}
			testSet(t, s.Or(d), want)
			testSet(t, s.And(e), want)
			testSet(t, s.Minus(f), nil, want...)
		}
	})
}

// P5.5: rows of calls, held against a map.
func TestRows(t *testing.T) {
	r := rand.New(rand.NewPCG(5, 5))
	for range 300 {
		var s sorted.Set[int]
		model := map[int]bool{}
		for range 30 {
			l := make([]int, r.IntN(6))
			for i := range l {
				l[i] = r.IntN(20)
			}
			switch r.IntN(4) {
			case 0:
				s = s.With(l...)
				for _, x := range l {
					model[x] = true
				}
			case 1:
				s = sorted.Of(l...).Or(s)
				for _, x := range l {
					model[x] = true
				}
			case 2:
				s = s.Minus(sorted.Of(l...))
				for _, x := range l {
					delete(model, x)
				}
			case 3:
				l = append(l, 3, 4, 5, 6, 7, 8, 9, 10, 11, 12)
				s = s.And(sorted.Of(l...))
				for x := range model {
					if !slices.Contains(l, x) {
						delete(model, x)
					}
				}
			}
			var want []int
			for x := range 20 {
				if model[x] {
					want = append(want, x)
				}
			}
			testSet(t, s, want, -1, 0, 9, 20)
		}
	}
}

// P5.5: a float's two zeros are one thing, and a set does not tell which of them came, nor which came first.
func TestZeros(t *testing.T) {
	minus := math.Copysign(0, -1)
	for k, s := range []sorted.Set[float64]{
		sorted.Of(minus), sorted.Of(0.0), sorted.Of(minus, 0), sorted.Of(0, minus), sorted.Of(0, minus, 0, minus),
		sorted.Of(minus).With(0), sorted.Of(0.0).With(minus), sorted.Of(minus).Or(sorted.Of(0.0)), sorted.Of(minus).And(sorted.Of(0.0)), sorted.Of(1, minus).Minus(sorted.Of(1.0)),
	} {
		testSet(t, s, []float64{0}, minus, 1, -1)
		if x := s.List()[0]; math.Signbit(x) {
			t.Errorf("at %d it has the zero below nought", k)
		}
	}
	if l := sorted.Of(1, minus, -1).Minus(sorted.Of(0.0)).List(); !slices.Equal(l, []float64{-1, 1}) {
		t.Error(l)
	}
}

// R1: of floats that are no numbers nothing is promised, but that calls end.
func TestNoNumbers(t *testing.T) {
	nan := math.NaN()
	eachList([]float64{nan, 1, 2}, 4, func(a []float64) {
		s := sorted.Of(a...)
		for _, u := range []sorted.Set[float64]{{}, s, sorted.Of(nan), sorted.Of(nan, 1, nan), sorted.Of(2.0)} {
			for _, x := range []sorted.Set[float64]{s.Or(u), u.Or(s), s.And(u), u.And(s), s.Minus(u), u.Minus(s), u.With(a...)} {
				x.Has(nan)
				first(x.All(), 100)
				first(x.From(nan), 100)
				sorted.Compare(x.List(), a)
				sorted.Same(a, x.List())
			}
		}
	})
}

// R3: lists that are handed in are left as they are, their spare room too, and are not kept.
func TestHandedIn(t *testing.T) {
	whole := []int{5, 1, 5, 3, 9, 8, 7}
	was := slices.Clone(whole)
	l := whole[:4]
	s := sorted.Of(l...)
	u := sorted.Of(4).With(l...)
	sorted.Compare(l, whole)
	sorted.Same(l, whole[1:5])
	sorted.Of(0, 2).With(l...).Or(s)
	if !slices.Equal(whole, was) {
		t.Errorf("the list became %v", whole)
	}
	all, from := s.All(), u.From(2)
	for i := range whole {
		whole[i] = 77
	}
	testSet(t, s, []int{1, 3, 5}, 77)
	testSet(t, u, []int{1, 3, 4, 5}, 77)
	if a, b := slices.Collect(all), slices.Collect(from); !slices.Equal(a, []int{1, 3, 5}) || !slices.Equal(b, []int{3, 4, 5}) {
		t.Error(a, b)
	}
	rose := []int{1, 2, 3} // what need not be brought in order is not kept either
	s, u = sorted.Of(rose...), sorted.Set[int]{}.With(rose...)
	rose[1] = 9
	testSet(t, s, []int{1, 2, 3}, 9)
	testSet(t, u, []int{1, 2, 3}, 9)
}

// R3: what is answered is nobody else's, its spare room included.
func TestAnswers(t *testing.T) {
	spoil := func(l []int) {
		l = l[:cap(l)]
		for i := range l {
			l[i] = -5
		}
	}
	s := sorted.Of(1, 2, 3)
	u := sorted.Of(3, 4)
	all := s.All()
	for _, x := range []sorted.Set[int]{s, u, s.With(), s.With(1), s.Or(u), s.Or(sorted.Set[int]{}), sorted.Set[int]{}.Or(s), s.And(s), s.Minus(u), u.With(9), u.And(s)} {
		first, second := x.List(), x.List()
		was := slices.Clone(second)
		spoil(first)
		if !slices.Equal(second, was) {
			t.Errorf("an answer became %v with another one", second)
		}
		testSet(t, x, was, -5)
		spoil(append(second, 6))
		spoil(slices.Collect(x.All()))
		testSet(t, x, was, -5, 6)
	}
	testSet(t, s, []int{1, 2, 3}, -5)
	testSet(t, u, []int{3, 4}, -5)
	if l := slices.Collect(all); !slices.Equal(l, []int{1, 2, 3}) {
		t.Error(l)
	}
}

// P5.1, R3: no call changes a set, and sets that came of one set do not change each other.
func TestUnchanged(t *testing.T) {
	s := sorted.Of(10, 20, 30).With(15)
	copied := s
	a, b := s.With(40), s.With(50)
	c, d := a.Or(sorted.Of(60)), a.Or(sorted.Of(70))
	e, f := a.Minus(sorted.Of(40)).With(41), a.Minus(sorted.Of(40)).With(42)
	g, h := a.And(s).With(16), a.And(s).With(17)
	testSet(t, s, []int{10, 15, 20, 30}, 40, 50)
	testSet(t, copied, []int{10, 15, 20, 30}, 40, 50)
	testSet(t, a, []int{10, 15, 20, 30, 40}, 50, 60)
	testSet(t, b, []int{10, 15, 20, 30, 50}, 40, 60)
	testSet(t, c, []int{10, 15, 20, 30, 40, 60}, 70)
	testSet(t, d, []int{10, 15, 20, 30, 40, 70}, 60)
	testSet(t, e, []int{10, 15, 20, 30, 41}, 40, 42)
	testSet(t, f, []int{10, 15, 20, 30, 42}, 40, 41)
	testSet(t, g, []int{10, 15, 16, 20, 30}, 17, 40)
	testSet(t, h, []int{10, 15, 17, 20, 30}, 16, 40)
}

// R4: the same arguments have the same answer, whatever was asked before.
func TestSameAgain(t *testing.T) {
	for range 3 {
		testSet(t, sorted.Of(3, 1, 3), []int{1, 3}, 2)
		testSet(t, sorted.Of("b", "a").With("c"), []string{"a", "b", "c"}, "")
		testSet(t, sorted.Of[int](), nil, 1, 3)
		testCompare(t, []int{9}, []int{1, 2}, -1)
		testCompare(t, []int{1, 2}, []int{1, 2}, 0)
	}
}

// P5.1, P5.2: many things, of one call, and one by one.
func TestMany(t *testing.T) {
	n := 200000
	l := make([]int, 2*n)
	for i := range l {
		l[i] = (i * 7919) % n
	}
	s := sorted.Of(l...)
	odd := sorted.Of(those(l, func(x int) bool { return x%2 == 1 })...)
	even := s.Minus(odd)
	if s.Len() != n || odd.Len() != n/2 || even.Len() != n/2 || even.And(odd).Len() != 0 || !sorted.Same(even.Or(odd).List(), s.List()) {
		t.Error(s.Len(), odd.Len(), even.Len(), even.And(odd).Len(), even.Or(odd).Len())
	}
	next := 0
	for x := range s.All() {
		if x != next {
			t.Fatalf("%d stands in the place of %d", x, next)
		}
		next++
	}
	if l := first(even.From(99999), 2); !slices.Equal(l, []int{100000, 100002}) {
		t.Error(l)
	}
	var words sorted.Set[string]
	for k := range 500 {
		words = words.With(strings.Repeat("a", (k*37)%250))
	}
	if words.Len() != 250 || !words.Has("") || words.Has(strings.Repeat("a", 250)) {
		t.Error(words.Len())
	}
}
