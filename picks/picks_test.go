package picks_test

import (
	"math"
	"math/big"
	"math/rand/v2"
	"slices"
	"testing"

	"coroner/api"
	"coroner/picks"
)

// state is what a script tells, asked without a change of it.
type state struct {
	steps, used int
	cancelled   bool
}

func testState(t *testing.T, s *picks.Script, want state) {
	t.Helper()
	for range 2 {
		if is := (state{s.Steps(), s.Used(), s.Cancelled()}); is != want {
			t.Errorf("the script tells %+v, not %+v", is, want)
		}
	}
}

// testStep holds what Step answers against what it should, and the list that is handed in, with its spare room, against what it was.
func testStep(t *testing.T, s *picks.Script, ready []int, want int, wantE api.Errno) {
	t.Helper()
	roomy := append(slices.Clone(ready), -77, 77, -77)
	was := slices.Clone(roomy)
	if x, e := s.Step(roomy[:len(ready)]); x != want || e != wantE {
		t.Errorf("of the ready %v Step tells %d, %d, not %d, %d", ready, x, e, want, wantE)
	}
	if !slices.Equal(roomy, was) {
		t.Errorf("the ready %v are changed to %v", was, roomy)
	}
}

// model is a script in the chapter's words: its picks that are left, and how many steps there were.
type model struct {
	left                []int
	cancel, steps, used int
}

func (m *model) cancelled() bool { return m.cancel >= 0 && m.steps >= m.cancel }

func (m *model) state() state { return state{m.steps, m.used, m.cancelled()} }

// place is the number pick modulo n, by numbers of any length.
func place(pick, n int) int {
	return int(new(big.Int).Mod(big.NewInt(int64(pick)), big.NewInt(int64(n))).Int64())
}

func (m *model) step(ready []int) (int, api.Errno) {
	if m.cancelled() {
		return 0, api.ErrCancel
	}
	if len(ready) == 0 {
		return 0, api.ErrEmpty
	}
	can := rising(ready)
	m.steps++
	if len(m.left) == 0 {
		return can[0], api.OK
	}
	pick := m.left[0]
	m.left = m.left[1:]
	m.used++
	return can[place(pick, len(can))], api.OK
}

// rising are some numbers in rising order, each once: each time the least one above the last one.
func rising(l []int) []int {
	var out []int
	for {
		found, least := false, 0
		for _, x := range l {
			if (len(out) == 0 || x > out[len(out)-1]) && (!found || x < least) {
				found, least = true, x
			}
		}
		if !found {
			return out
		}
		out = append(out, least)
	}
}

// testRow takes a step of each list of ready ones, and holds the script against its model all along.
func testRow(t *testing.T, l []int, cancel int, row [][]int) {
	t.Helper()
	s, m := picks.New(l, cancel), &model{left: slices.Clone(l), cancel: cancel}
	testState(t, s, m.state())
	for _, ready := range row {
		x, e := m.step(ready)
		testStep(t, s, ready, x, e)
		testState(t, s, m.state())
	}
	if t.Failed() {
		t.Fatalf("with the picks %v, cancelled at %d, and the ready %v", l, cancel, row)
	}
}

// eachList goes through all lists of some things, up to a length.
func eachList[T any](things []T, most int, do func(l []T)) {
	var grow func(l []T)
	grow = func(l []T) {
		do(l)
		if len(l) < most {
			for _, x := range things {
				grow(append(slices.Clone(l), x))
			}
		}
	}
	grow(nil)
}

// P9.2: the chapter's example.
func TestExample(t *testing.T) {
	s, ready := picks.New([]int{4, -1}, -1), []int{5, 7, 9}
	testStep(t, s, ready, 7, api.OK)
	testStep(t, s, ready, 9, api.OK)
	testStep(t, s, ready, 5, api.OK)
	testStep(t, s, ready, 5, api.OK)
	testState(t, s, state{steps: 4, used: 2})
}

// P9.1: a new script has no steps, and is cancelled just if that is so at the step 0.
func TestNew(t *testing.T) {
	for _, l := range [][]int{nil, {}, {0}, {3, -3, 3}, make([]int, 1000)} {
		for _, cancel := range []int{math.MinInt, -1 << 32, -2, -1, 1, 2, 1 << 32, math.MaxInt} {
			testState(t, picks.New(l, cancel), state{})
		}
		testState(t, picks.New(l, 0), state{cancelled: true})
	}
}

// P9.1: what a script tells, from one step to the next.
func TestStates(t *testing.T) {
	s := picks.New([]int{1, 0}, 3)
	testState(t, s, state{})
	testStep(t, s, []int{3, 4}, 4, api.OK)
	testState(t, s, state{steps: 1, used: 1})
	testStep(t, s, []int{3, 4}, 3, api.OK)
	testState(t, s, state{steps: 2, used: 2})
	testStep(t, s, []int{3, 4}, 3, api.OK)
	testState(t, s, state{steps: 3, used: 2, cancelled: true})
}

// P9.1: a script keeps a copy of its picks, and changes none of what was handed in.
func TestCopy(t *testing.T) {
	roomy := []int{1, 2, 0, 7, 7}
	l := roomy[:3]
	s := picks.New(l, -1)
	testStep(t, s, []int{4, 5, 6}, 5, api.OK)
	l[1], l[2] = 0, 1
	testStep(t, s, []int{4, 5, 6}, 6, api.OK)
	testStep(t, s, []int{4, 5, 6}, 4, api.OK)
	_ = append(l, 2)
	testStep(t, s, []int{4, 5, 6}, 4, api.OK)
	if !slices.Equal(roomy, []int{1, 0, 1, 2, 7}) {
		t.Errorf("the picks that were handed in are %v", roomy)
	}
}

// P9.2: the ready ones are told in rising order, each once, in whatever order they are handed in, and however often.
func TestReady(t *testing.T) {
	eachList([]int{-3, 0, 2, 9}, 5, func(ready []int) {
		can := rising(ready)
		for k, x := range can {
			testStep(t, picks.New([]int{k}, -1), ready, x, api.OK)
			testStep(t, picks.New([]int{k - len(can)}, -1), ready, x, api.OK)
			testStep(t, picks.New([]int{k + len(can)}, -1), ready, x, api.OK)
		}
	})
	ends := []int{math.MaxInt, math.MinInt, 0, math.MaxInt, -1}
	for k, x := range []int{math.MinInt, -1, 0, math.MaxInt} {
		testStep(t, picks.New([]int{k}, -1), ends, x, api.OK)
	}
}

// P9.2: a pick is taken modulo the number of ready ones, also one below 0, and at both ends.
func TestModulo(t *testing.T) {
	var l []int
	for k := -200; k <= 200; k++ {
		l = append(l, k)
	}
	for k := range 70 {
		l = append(l, math.MinInt+k, math.MaxInt-k, 1<<32+k-35, -1<<32+k-35, 1<<31+k-35, -1<<31+k-35)
	}
	for n := 1; n <= 66; n++ {
		s, ready := picks.New(l, -1), make([]int, n)
		for k := range ready {
			ready[k] = 10*n - 3*k
		}
		for _, pick := range l {
			testStep(t, s, ready, 7*n+3+3*place(pick, n), api.OK)
		}
		testStep(t, s, ready, 7*n+3, api.OK)
		testState(t, s, state{steps: len(l) + 1, used: len(l)})
	}
}

// P9.2: a pick is used by each step, also where there is no choice.
func TestOne(t *testing.T) {
	s := picks.New([]int{5, 1, -7, 2}, -1)
	testStep(t, s, []int{8}, 8, api.OK)
	testStep(t, s, []int{8, 6, 7}, 7, api.OK)
	testStep(t, s, []int{6, 6}, 6, api.OK)
	testState(t, s, state{steps: 3, used: 3})
	testStep(t, s, []int{8, 6, 7}, 8, api.OK)
	testState(t, s, state{steps: 4, used: 4})
}

// P9.2: when there is no pick any more the least one is told, wherever it stands.
func TestNoPick(t *testing.T) {
	s := picks.New([]int{2}, -1)
	testStep(t, s, []int{1, 2, 3}, 3, api.OK)
	for k, ready := range [][]int{{1, 2, 3}, {3, 2, 1}, {2, 1, 3, 1}, {9, math.MinInt}, {4}, {0, -1}} {
		testStep(t, s, ready, slices.Min(ready), api.OK)
		testState(t, s, state{steps: k + 2, used: 1})
	}
}

// P9.2: a refused step tells the error that the chapter names first, and changes nothing.
func TestRefused(t *testing.T) {
	s := picks.New([]int{1, 2}, 2)
	for range 3 {
		testStep(t, s, nil, 0, api.ErrEmpty)
		testStep(t, s, []int{}, 0, api.ErrEmpty)
		testState(t, s, state{})
	}
	testStep(t, s, []int{3, 4, 5}, 4, api.OK)
	testStep(t, s, nil, 0, api.ErrEmpty)
	testState(t, s, state{steps: 1, used: 1})
	testStep(t, s, []int{3, 4, 5}, 5, api.OK)
	for range 3 {
		testStep(t, s, []int{3, 4, 5}, 0, api.ErrCancel)
		testStep(t, s, nil, 0, api.ErrCancel) // there is no ready one, too
		testState(t, s, state{steps: 2, used: 2, cancelled: true})
	}
	testStep(t, picks.New(nil, 0), nil, 0, api.ErrCancel)
	testStep(t, picks.New([]int{1}, 0), []int{1}, 0, api.ErrCancel)
}

// P9.1, P9.2: all short scripts, cancelled at any step, with all short rows of ready ones.
func TestShortRows(t *testing.T) {
	lists := [][]int{nil, {5}, {7, 5}, {9, 5, 7, 5}}
	eachList([]int{-2, -1, 0, 1, 5}, 3, func(l []int) {
		for cancel := -2; cancel <= 5; cancel++ {
			eachList(lists, 4, func(row [][]int) {
				if len(row) == 4 {
					testRow(t, l, cancel, row)
				}
			})
		}
	})
}

// somePicks are picks of all sizes.
func somePicks(r *rand.Rand, n int) []int {
	l := make([]int, n)
	for k := range l {
		l[k] = int(r.Uint64()) >> r.IntN(64)
	}
	return l
}

// someReady are numbers of some that can go on, often near each other.
func someReady(r *rand.Rand) []int {
	l := make([]int, r.IntN(12))
	among, from := 1+r.IntN(70), r.IntN(9)-4
	for k := range l {
		l[k] = from + r.IntN(among)
	}
	return l
}

// P9.1, P9.2: long scripts, and long rows of ready ones.
func TestLongRows(t *testing.T) {
	r := rand.New(rand.NewPCG(9, 1))
	for range 2000 {
		row := make([][]int, r.IntN(120))
		for k := range row {
			row[k] = someReady(r)
		}
		testRow(t, somePicks(r, r.IntN(90)), r.IntN(240)-120, row)
	}
}

// testUnmade makes all calls of a script that no call made, in some orders.
func testUnmade(t *testing.T, s *picks.Script) {
	t.Helper()
	testState(t, s, state{})
	for range 2 {
		for _, ready := range [][]int{nil, {}, {1}, {3, 2}} {
			testStep(t, s, ready, 0, api.ErrNil)
			testState(t, s, state{})
		}
	}
}

// P9.3: scripts that are nil, or that no call made.
func TestUnmade(t *testing.T) {
	testUnmade(t, nil)
	testUnmade(t, new(picks.Script))
	testUnmade(t, &picks.Script{})
	var s picks.Script
	testUnmade(t, &s)
}

// P9.4: whoever is told is ready, whatever the picks.
func TestTold(t *testing.T) {
	r := rand.New(rand.NewPCG(9, 4))
	s := picks.New(somePicks(r, 15000), -1)
	steps := 0
	for range 20000 {
		ready := someReady(r)
		x, e := s.Step(ready)
		switch {
		case len(ready) == 0 && (x != 0 || e != api.ErrEmpty), len(ready) > 0 && (e != api.OK || !slices.Contains(ready, x)):
			t.Fatalf("of the ready %v Step tells %d, %d", ready, x, e)
		case e == api.OK:
			steps++
		}
	}
	testState(t, s, state{steps: steps, used: 15000})
}

// P9.4: a script that is cancelled at a step has just that many, however often it is asked.
func TestCancelled(t *testing.T) {
	for _, picked := range []int{0, 1, 10, 40} {
		for cancel := range 30 {
			s := picks.New(make([]int, picked), cancel)
			told := 0
			for range 2*cancel + 5 {
				x, e := s.Step([]int{2, 1})
				if e == api.OK {
					told++
				} else if x != 0 || e != api.ErrCancel {
					t.Errorf("Step tells %d, %d", x, e)
				}
				if s.Cancelled() != (told == cancel) {
					t.Errorf("cancelled at %d, after %d steps: %t", cancel, told, s.Cancelled())
				}
			}
			if told != cancel {
				t.Errorf("cancelled at %d, there are %d steps", cancel, told)
			}
			testState(t, s, state{steps: cancel, used: min(cancel, picked), cancelled: true})
		}
	}
	never := picks.New(nil, -1)
	for range 5000 {
		testStep(t, never, []int{6, 3}, 3, api.OK)
	}
	testState(t, never, state{steps: 5000})
}

// R4: two scripts have nothing in common, also of the same picks.
func TestApart(t *testing.T) {
	l, ready := []int{1, 0, 1}, []int{8, 9}
	a, b := picks.New(l, 2), picks.New(l, -1)
	testStep(t, a, ready, 9, api.OK)
	testStep(t, a, ready, 8, api.OK)
	testStep(t, a, ready, 0, api.ErrCancel)
	testStep(t, b, ready, 9, api.OK)
	testStep(t, b, nil, 0, api.ErrEmpty)
	testState(t, a, state{steps: 2, used: 2, cancelled: true})
	testState(t, b, state{steps: 1, used: 1})
	testStep(t, b, ready, 8, api.OK)
	testStep(t, b, ready, 9, api.OK)
	testState(t, b, state{steps: 3, used: 3})
}
