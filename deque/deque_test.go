package deque_test

import (
	"iter"
	"math/rand/v2"
	"slices"
	"testing"

	"coroner/deque"
)

// of is a row of some things.
func of[T any](l ...T) *deque.Deque[T] {
	d := &deque.Deque[T]{}
	for _, x := range l {
		d.Push(x)
	}
	return d
}

// things are what is gone through; their numbers must be 0, 1 and so on.
func things[T any](t *testing.T, all iter.Seq2[int, T]) []T {
	t.Helper()
	var l []T
	for k, x := range all {
		if k != len(l) {
			t.Errorf("the thing with the number %d is told as %d", len(l), k)
		}
		l = append(l, x)
	}
	return l
}

// testRow asks a row all that can be asked without a change of it.
func testRow[T comparable](t *testing.T, d *deque.Deque[T], want []T) {
	t.Helper()
	if l := d.List(); !slices.Equal(l, want) || d.Len() != len(want) {
		t.Errorf("the row has %v, %d things, not %v", l, d.Len(), want)
	}
	all := d.All()
	if all == nil {
		t.Fatal("All is nil")
	}
	for range 2 {
		if l := things(t, all); !slices.Equal(l, want) {
			t.Errorf("%v is gone through as %v", want, l)
		}
	}
}

// testTake holds what a call took against what it should.
func testTake[T comparable](t *testing.T, take func() (T, bool), want T, is bool) {
	t.Helper()
	if x, ok := take(); x != want || ok != is {
		t.Errorf("%v, %t is taken, not %v, %t", x, ok, want, is)
	}
}

// testEmpty takes at both ends of a row that has nothing.
func testEmpty[T comparable](t *testing.T, d *deque.Deque[T]) {
	t.Helper()
	var none T
	testTake(t, d.Pop, none, false)
	testTake(t, d.Steal, none, false)
	testRow(t, d, nil)
}

// pair is a row, and the list of what it should have.
type pair struct {
	d    *deque.Deque[int]
	l    []int
	next int
}

// push puts a number that never was in the row.
func (p *pair) push() {
	p.next++
	p.d.Push(p.next)
	p.l = append(p.l, p.next)
}

func (p *pair) pop(t *testing.T) {
	t.Helper()
	if len(p.l) == 0 {
		testTake(t, p.d.Pop, 0, false)
		return
	}
	last := len(p.l) - 1
	testTake(t, p.d.Pop, p.l[last], true)
	p.l = p.l[:last]
}

func (p *pair) steal(t *testing.T) {
	t.Helper()
	if len(p.l) == 0 {
		testTake(t, p.d.Steal, 0, false)
		return
	}
	testTake(t, p.d.Steal, p.l[0], true)
	p.l = p.l[1:]
}

// P7.1: the chapter's example, and the zero value, which is an empty row.
func TestExample(t *testing.T) {
	d := of(1, 2, 3)
	testTake(t, d.Steal, 1, true)
	testTake(t, d.Pop, 3, true)
	testRow(t, d, []int{2})
	testTake(t, d.Pop, 2, true)
	testEmpty(t, d)
	var zero deque.Deque[int]
	testEmpty(t, &zero)
	zero.Push(0)
	testRow(t, &zero, []int{0})
	testTake(t, zero.Steal, 0, true) // a thing that is the zero value is a thing
	testEmpty(t, &zero)
}

// P7.1, P7.2: all short rows of calls.
func TestShortRows(t *testing.T) {
	for n := range 11 {
		rows := 1
		for range n {
			rows *= 3
		}
		for row := range rows {
			p := &pair{d: &deque.Deque[int]{}}
			for k := row + rows; k >= 3; k /= 3 {
				switch k % 3 {
				case 0:
					p.push()
				case 1:
					p.pop(t)
				case 2:
					p.steal(t)
				}
				if p.d.Len() != len(p.l) {
					t.Fatalf("Len is %d, not %d", p.d.Len(), len(p.l))
				}
			}
			testRow(t, p.d, p.l)
			if t.Failed() {
				t.Fatalf("after the row of calls %d of %d", row, n)
			}
		}
	}
}

// P7.1, P7.2: rows that stand anywhere in their ring, whatever its room, and become longer and shorter there.
func TestRing(t *testing.T) {
	for start := range 40 {
		for many := range 40 {
			p := &pair{d: &deque.Deque[int]{}}
			for range start { // the top goes on, with one thing in the row
				p.push()
				p.push()
				p.steal(t)
				p.steal(t)
			}
			for range many {
				p.push()
			}
			testRow(t, p.d, p.l)
			for range many / 2 {
				p.steal(t)
				p.push()
			}
			testRow(t, p.d, p.l)
			for k := 0; len(p.l) > 0; k++ {
				if (k+start)%3 == 0 {
					p.pop(t)
				} else {
					p.steal(t)
				}
				testRow(t, p.d, p.l)
			}
			testEmpty(t, p.d)
			if t.Failed() {
				t.Fatalf("from %d on, with %d things", start, many)
			}
		}
	}
}

// P7.1, P7.2: long rows of calls, in times in which one of them comes more often.
func TestLongRows(t *testing.T) {
	r := rand.New(rand.NewPCG(7, 1))
	for range 200 {
		p := &pair{d: &deque.Deque[int]{}}
		for range 20 {
			push, pop := r.IntN(10), r.IntN(5)
			for range r.IntN(60) {
				switch k := r.IntN(14); {
				case k < push:
					p.push()
				case k < push+pop:
					p.pop(t)
				default:
					p.steal(t)
				}
			}
			testRow(t, p.d, p.l)
		}
		if t.Failed() {
			t.FailNow()
		}
	}
}

// P7.1: rows of many things.
func TestMany(t *testing.T) {
	const many = 100000
	d := &deque.Deque[int]{}
	for k := range many {
		d.Push(k)
	}
	for k := range many / 2 {
		testTake(t, d.Steal, k, true)
		testTake(t, d.Pop, many-1-k, true)
		if n := many - 2 - 2*k; d.Len() != n {
			t.Fatalf("Len is %d, not %d", d.Len(), n)
		}
	}
	testEmpty(t, d)
}

// P7.1: things of any type, and what is told where there is none of them.
func TestTypes(t *testing.T) {
	type thing struct {
		name string
		at   [2]float64
	}
	x, y := thing{"x", [2]float64{1, 2}}, thing{"y", [2]float64{3, 4}}
	testType(t, x, y)
	testType(t, &x, &y)
	testType(t, "", "word")
	testType(t, false, true)
	testType(t, struct{}{}, struct{}{})
	testType[any](t, nil, 5)
	testType(t, 0.5, -1)
	funcs := of(func() int { return 1 }, func() int { return 2 })
	if f, is := funcs.Steal(); !is || f() != 1 {
		t.Error("the first function is not taken")
	}
	if f, is := funcs.Pop(); !is || f() != 2 {
		t.Error("the last function is not taken")
	}
	if f, is := funcs.Pop(); is || f != nil {
		t.Error("a function is taken where there is none")
	}
	lists := of([]int{1}, nil, []int{2, 3})
	if l, is := lists.Pop(); !is || !slices.Equal(l, []int{2, 3}) || len(lists.List()) != 2 {
		t.Error("the last list is not taken")
	}
}

func testType[T comparable](t *testing.T, x, y T) {
	t.Helper()
	d := of(x, y, y, x)
	testRow(t, d, []T{x, y, y, x})
	testTake(t, d.Pop, x, true)
	testTake(t, d.Steal, x, true)
	d.Push(x)
	testTake(t, d.Steal, y, true)
	testTake(t, d.Pop, x, true)
	testRow(t, d, []T{y})
	testTake(t, d.Pop, y, true)
	testEmpty(t, d)
	var none *deque.Deque[T]
	none.Push(x)
	testEmpty(t, none)
}

// P7.2: all are gone through as long as it is wanted, and within one another.
func TestAll(t *testing.T) {
	d := of(9, 5, 6, 7)
	testTake(t, d.Steal, 9, true)
	d.Push(8)
	all := d.All()
	for n := range 6 {
		calls := 0
		all(func(k, x int) bool {
			if k != calls || x != 5+k {
				t.Errorf("the number %d tells %d", k, x)
			}
			calls++
			return calls < n
		})
		if want := min(max(n, 1), 4); calls != want {
			t.Errorf("%d things are told where %d are wanted", calls, want)
		}
	}
	var l []int
	for _, x := range all {
		for k, y := range all {
			l = append(l, 100*x+10*k+y)
		}
	}
	want := []int{505, 516, 527, 538, 605, 616, 627, 638, 705, 716, 727, 738, 805, 816, 827, 838}
	if !slices.Equal(l, want) {
		t.Errorf("%v, not %v", l, want)
	}
}

// P7.2: what is gone through is what was there when All was called, whatever comes behind it, and meanwhile.
func TestAllAsItWas(t *testing.T) {
	calls := []func(d *deque.Deque[int], n int){
		func(d *deque.Deque[int], n int) { d.Push(100 + n) },
		func(d *deque.Deque[int], _ int) { d.Pop() },
		func(d *deque.Deque[int], _ int) { d.Steal() },
		func(d *deque.Deque[int], n int) { d.Steal(); d.Push(200 + n) },
		func(d *deque.Deque[int], n int) { d.Pop(); d.Push(300 + n) },
	}
	for many := range 12 {
		for taken := range many + 1 {
			for _, call := range calls {
				d := &deque.Deque[int]{}
				for k := range many {
					d.Push(k)
				}
				for range taken {
					d.Steal()
				}
				was := d.List()
				all := d.All()
				for n := range 5 {
					call(d, n)
				}
				if l := things(t, all); !slices.Equal(l, was) {
					t.Fatalf("%v is gone through as %v", was, l)
				}
				was = d.List()
				var l []int
				for k, x := range d.All() {
					l = append(l, x)
					call(d, k)
				}
				if !slices.Equal(l, was) {
					t.Fatalf("%v is gone through as %v, while it changes", was, l)
				}
			}
		}
	}
	empty := &deque.Deque[int]{}
	all := empty.All()
	empty.Push(1)
	for k, x := range all {
		t.Errorf("%d, %d is there, and was not", k, x)
	}
}

// P7.2, R3: a list is one's own: no change of it changes the row, or another list, and no call changes it.
func TestListIsOwn(t *testing.T) {
	d := of(1, 2, 3, 4, 5)
	d.Steal()
	l, all := d.List(), d.All()
	other := d.List()
	l[0] = 70
	l = append(l[:2], 71, 72, 73)
	testRow(t, d, []int{2, 3, 4, 5})
	d.Push(6)
	d.Pop()
	d.Pop()
	d.Steal()
	d.Push(7)
	d.Push(8)
	if want := []int{70, 3, 71, 72, 73}; !slices.Equal(l, want) {
		t.Errorf("%v, not %v", l, want)
	}
	if want := []int{2, 3, 4, 5}; !slices.Equal(other, want) || !slices.Equal(things(t, all), want) {
		t.Errorf("%v, and %v, not %v", other, things(t, all), want)
	}
	testRow(t, d, []int{3, 4, 7, 8})
}

// P7.3: rows that are nil have nothing, and nothing is put there.
func TestNil(t *testing.T) {
	var d *deque.Deque[int]
	testEmpty(t, d)
	d.Push(5)
	testEmpty(t, d)
	all := d.All()
	if all == nil {
		t.Fatal("All of a nil row is nil")
	}
	for k, x := range all {
		t.Errorf("a nil row has %d, %d", k, x)
	}
}

// P7.4: Pop alone takes the last one first, Steal alone the first one first.
func TestOneEnd(t *testing.T) {
	for many := range 200 {
		pops, steals := &deque.Deque[int]{}, &deque.Deque[int]{}
		for k := range many {
			pops.Push(k + 1)
			steals.Push(k + 1)
		}
		for k := range many {
			testTake(t, pops.Pop, many-k, true)
			testTake(t, steals.Steal, k+1, true)
		}
		testEmpty(t, pops)
		testEmpty(t, steals)
	}
}

// P7.4: what is pushed is taken just once, at one end or at the other.
func TestTakenOnce(t *testing.T) {
	r := rand.New(rand.NewPCG(7, 4))
	for range 300 {
		d := &deque.Deque[int]{}
		pushed := 0
		var taken []int
		note := func(x int, is bool) {
			if is {
				taken = append(taken, x)
			}
		}
		for range r.IntN(300) {
			switch r.IntN(4) {
			case 0:
				note(d.Pop())
			case 1:
				note(d.Steal())
			default:
				d.Push(pushed)
				pushed++
			}
		}
		for d.Len() > 0 {
			note(d.Pop())
		}
		slices.Sort(taken)
		if len(taken) != pushed {
			t.Fatalf("%d are taken of %d", len(taken), pushed)
		}
		for k, x := range taken {
			if k != x {
				t.Fatalf("%d is taken in the place of %d", x, k)
			}
		}
	}
}

// R4: two rows have nothing in common.
func TestApart(t *testing.T) {
	a, b := of(1, 2, 3), of(4, 5)
	a.Pop()
	b.Push(6)
	b.Steal()
	a.Push(7)
	testRow(t, a, []int{1, 2, 7})
	testRow(t, b, []int{5, 6})
}
