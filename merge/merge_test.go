package merge_test

import (
	"cmp"
	"math/rand/v2"
	"slices"
	"strings"
	"testing"

	"coroner/api"
	"coroner/merge"
	"coroner/picks"
)

// card is a thing of which compare sees the number alone; the mark tells where it came from.
type card struct {
	number int
	mark   string
}

// byNumber is how cards stand.
func byNumber(a, b card) int { return cmp.Compare(a.number, b.number) }

// told is what a run tells, and the steps of its script.
type told[T comparable] struct {
	out   []T
	st    merge.Stats
	e     api.Errno
	steps int
}

func (a told[T]) same(b told[T]) bool {
	return slices.Equal(a.out, b.out) && a.st == b.st && a.e == b.e && a.steps == b.steps
}

// run is what a run tells of picks, and a step at which all is cancelled.
func run[T comparable](rows [][]T, compare func(a, b T) int, room int, l []int, cancel int) told[T] {
	s := picks.New(l, cancel)
	out, st, e := merge.Run(rows, compare, room, s)
	return told[T]{out, st, e, s.Steps()}
}

// together is what rows make together, in the chapter's words: where holds how many things were taken off each row.
func together[T any](rows [][]T, compare func(a, b T) int) []T {
	where := make([]int, len(rows))
	var out []T
	for {
		best := -1
		for k, row := range rows {
			if where[k] < len(row) && (best < 0 || compare(row[where[k]], rows[best][where[best]]) < 0) {
				best = k
			}
		}
		if best < 0 {
			return out
		}
		x := rows[best][where[best]]
		where[best]++
		if len(out) == 0 || compare(out[len(out)-1], x) != 0 {
			out = append(out, x)
		}
	}
}

// things is how many there are in all rows.
func things[T any](rows [][]T) int {
	n := 0
	for _, row := range rows {
		n += len(row)
	}
	return n
}

// model is a run in the chapter's words, by counts: how many things of each row were sent, received, and put.
type model[T any] struct {
	rows                [][]T
	compare             func(a, b T) int
	room                int
	sent, received, put []int
	closed              []bool
	over                bool
	out                 []T
	st                  merge.Stats
}

func newModel[T any](rows [][]T, compare func(a, b T) int, room int) *model[T] {
	n := len(rows)
	return &model[T]{rows: rows, compare: compare, room: room, sent: make([]int, n), received: make([]int, n), put: make([]int, n), closed: make([]bool, n)}
}

func (m *model[T]) head(k int) bool { return m.received[k] > m.put[k] }

func (m *model[T]) ready() []int {
	var can []int
	some, each := false, true
	for k := range m.rows {
		in := m.sent[k] - m.received[k]
		if !m.closed[k] && (in < m.room || m.sent[k] == len(m.rows[k])) {
			can = append(can, k)
		}
		some = some || !m.head(k) && in > 0
		each = each && (m.head(k) || m.closed[k] && in == 0)
	}
	if !m.over && (some || each) {
		can = append(can, len(m.rows))
	}
	return can
}

func (m *model[T]) step(k int) {
	m.st.Steps++
	switch {
	case k == len(m.rows):
		m.merge()
	case m.sent[k] < len(m.rows[k]):
		m.sent[k]++
		m.st.Sent++
	default:
		m.closed[k] = true
		m.st.Exited++
	}
}

func (m *model[T]) merge() {
	best := -1
	for k, row := range m.rows {
		if !m.head(k) && m.sent[k] > m.received[k] {
			m.received[k]++
			return
		}
		if m.head(k) && (best < 0 || m.compare(row[m.put[k]], m.rows[best][m.put[best]]) < 0) {
			best = k
		}
	}
	if best < 0 {
		m.over = true
		m.st.Exited++
		return
	}
	x := m.rows[best][m.put[best]]
	m.put[best]++
	if len(m.out) == 0 || m.compare(x, m.out[len(m.out)-1]) != 0 {
		m.out = append(m.out, x)
	}
}

// run is what the model tells of picks, and a step at which all is cancelled.
func (m *model[T]) run(l []int, cancel int) ([]T, merge.Stats, api.Errno) {
	s := picks.New(l, cancel)
	for !m.over {
		k, e := s.Step(m.ready())
		if e != api.OK {
			return nil, m.st, e
		}
		m.step(k)
	}
	return m.out, m.st, api.OK
}

// testRun holds a run against the model, and, if it is not cancelled, against what the rows make together.
func testRun[T comparable](t *testing.T, rows [][]T, compare func(a, b T) int, room int, l []int, cancel int) told[T] {
	t.Helper()
	is := run(rows, compare, room, l, cancel)
	out, st, e := newModel(rows, compare, room).run(l, cancel)
	if want := (told[T]{out, st, e, st.Steps}); !is.same(want) {
		t.Fatalf("rows %v, room %d, picks %v, cancelled at %d: told %+v, not %+v", rows, room, l, cancel, is, want)
	}
	if is.e != api.OK {
		return is
	}
	n := things(rows)
	if want := (merge.Stats{Steps: 3*n + len(rows) + 1, Sent: n, Exited: len(rows) + 1}); is.st != want || !slices.Equal(is.out, together(rows, compare)) {
		t.Fatalf("rows %v, room %d, picks %v: told %+v, not %v, %+v", rows, room, l, is, together(rows, compare), want)
	}
	return is
}

// testRows holds what rows make against what they should.
func testRows[T comparable](t *testing.T, rows [][]T, compare func(a, b T) int, want ...T) {
	t.Helper()
	if out := merge.Rows(rows, compare); !slices.Equal(out, want) {
		t.Errorf("%v make %v, not %v", rows, out, want)
	}
}

// eachList goes through all lists with up to n of the numbers from 0 to top.
func eachList(n, top int, do func(l []int)) {
	var grow func(l []int)
	grow = func(l []int) {
		do(l)
		if len(l) < n {
			for x := range top + 1 {
				grow(append(slices.Clip(l), x))
			}
		}
	}
	grow(nil)
}

// somePicks are up to n picks, those below 0 included.
func somePicks(r *rand.Rand, n int) []int {
	l := make([]int, r.IntN(n+1))
	for i := range l {
		l[i] = r.IntN(2000) - 1000
	}
	return l
}

// someRows are up to n rows with up to m cards each, of few numbers, so that many are alike; no two have the same mark.
func someRows(r *rand.Rand, n, m int) [][]card {
	rows := make([][]card, r.IntN(n+1))
	top := 1 + r.IntN(2*m)
	for i := range rows {
		rows[i] = make([]card, r.IntN(m+1))
		for k := range rows[i] {
			rows[i][k] = card{r.IntN(top), string(rune('a'+i)) + string(rune('0'+k))}
		}
		if r.IntN(2) == 0 {
			slices.SortStableFunc(rows[i], byNumber)
		}
	}
	return rows
}

// P11.1: the chapter's example, rows that do not rise, and rows without things.
func TestRows(t *testing.T) {
	testRows(t, [][]int{{1, 3}, {1, 2}}, cmp.Compare[int], 1, 2, 3)
	testRows(t, [][]int{{3, 1}, {2, 2}}, cmp.Compare[int], 2, 3, 1)
	testRows(t, [][]int{{5, 5, 4, 5, 5, 4, 4}}, cmp.Compare[int], 5, 4, 5, 4)
	testRows(t, [][]int{{9, 0, 9}, {4, 8, 1}, {7}}, cmp.Compare[int], 4, 7, 8, 1, 9, 0, 9)
	testRows(t, [][]int{nil, {2}, {}, {1, 2}, nil}, cmp.Compare[int], 1, 2)
	testRows(t, [][]int{{}, nil, {}}, cmp.Compare[int])
	testRows(t, [][]int{}, cmp.Compare[int])
	testRows(t, nil, cmp.Compare[int])
	testRows(t, [][]int{{-1 << 63, 1<<63 - 1}, {1<<63 - 1}, {-1 << 63, 0}}, cmp.Compare[int], -1<<63, 0, 1<<63-1)
}

// P11.1: compare alone tells how things stand; of its answers the sign counts.
func TestRowsCompare(t *testing.T) {
	rows := [][]int{{7, 5, 2}, {9, 5}, {1}}
	down := func(a, b int) int { return cmp.Compare(b, a) }
	testRows(t, rows, down, 9, 7, 5, 2, 1)
	testRows(t, rows, func(a, b int) int { return 1000 * (b - a) }, 9, 7, 5, 2, 1)
	testRows(t, rows, func(a, b int) int { return 0 }, 7)
	testRows(t, rows, func(a, b int) int { return a%2 - b%2 }, 7, 2, 9)
	testRows(t, [][]int{{7, 2, 4}, {8, 1}}, func(a, b int) int { return a%2 - b%2 }, 8, 7, 2, 1)
	testRows(t, [][]string{{"Ba", "c"}, {"a", "bA"}}, func(a, b string) int {
		return strings.Compare(strings.ToLower(a), strings.ToLower(b))
	}, "a", "Ba", "c")
}

// P11.1: of such as are alike that of the first row is taken, and only the one that was put first is told.
func TestRowsAlike(t *testing.T) {
	rows := [][]card{{{2, "a"}, {3, "b"}}, {{2, "c"}, {2, "d"}, {1, "e"}}, {{1, "f"}, {2, "g"}}}
	testRows(t, rows, byNumber, card{1, "f"}, card{2, "a"}, card{1, "e"}, card{2, "g"}, card{3, "b"})
	testRows(t, [][]card{rows[1], rows[0], rows[2]}, byNumber, card{1, "f"}, card{2, "c"}, card{1, "e"}, card{2, "a"}, card{3, "b"})
	testRows(t, [][]card{rows[2], rows[1], rows[0]}, byNumber, card{1, "f"}, card{2, "g"}, card{1, "e"}, card{2, "a"}, card{3, "b"})
}

// P11.1: all short rows, and long ones, against the chapter's words.
func TestRowsAll(t *testing.T) {
	eachList(6, 3, func(l []int) {
		for i := range len(l) + 1 {
			for k := i; k <= len(l); k++ {
				rows := [][]int{l[:i], l[i:k], l[k:]}
				testRows(t, rows, cmp.Compare[int], together(rows, cmp.Compare[int])...)
			}
		}
	})
	r := rand.New(rand.NewPCG(11, 1))
	for range 2000 {
		rows := someRows(r, 20, 30)
		testRows(t, rows, byNumber, together(rows, byNumber)...)
	}
}

// P11.1: of a nil compare: nothing.
func TestRowsNil(t *testing.T) {
	for _, rows := range [][][]int{nil, {}, {nil}, {{1}}, {{1, 2}, {3}}} {
		if out := merge.Rows(rows, nil); len(out) != 0 {
			t.Error(rows, out)
		}
	}
}

// P11.2: ErrArg comes ahead of the script's errors, and the script takes no step then.
func TestErrors(t *testing.T) {
	var unmade picks.Script
	for _, rows := range [][][]int{nil, {}, {nil}, {{1, 2}, {3}}} {
		for _, c := range []struct {
			compare func(a, b int) int
			room    int
			s       *picks.Script
			want    api.Errno
		}{
			{nil, 1, picks.New(nil, -1), api.ErrArg},
			{nil, 0, picks.New(nil, -1), api.ErrArg},
			{nil, 1, nil, api.ErrArg},
			{nil, 1, picks.New(nil, 0), api.ErrArg},
			{cmp.Compare[int], 0, picks.New(nil, -1), api.ErrArg},
			{cmp.Compare[int], -1, picks.New(nil, -1), api.ErrArg},
			{cmp.Compare[int], -1 << 63, picks.New(nil, -1), api.ErrArg},
			{cmp.Compare[int], 65, picks.New(nil, -1), api.ErrArg},
			{cmp.Compare[int], 1<<63 - 1, picks.New(nil, -1), api.ErrArg},
			{cmp.Compare[int], 0, nil, api.ErrArg},
			{cmp.Compare[int], 65, &unmade, api.ErrArg},
			{cmp.Compare[int], 65, picks.New(nil, 0), api.ErrArg},
			{cmp.Compare[int], 1, nil, api.ErrNil},
			{cmp.Compare[int], 64, nil, api.ErrNil},
			{cmp.Compare[int], 1, &unmade, api.ErrNil},
			{cmp.Compare[int], 64, &unmade, api.ErrNil},
			{cmp.Compare[int], 1, picks.New(nil, 0), api.ErrCancel},
			{cmp.Compare[int], 64, picks.New([]int{1, 2}, 0), api.ErrCancel},
		} {
			out, st, e := merge.Run(rows, c.compare, c.room, c.s)
			if e != c.want || len(out) != 0 || st != (merge.Stats{}) || c.s.Steps() != 0 || c.s.Used() != 0 {
				t.Errorf("rows %v, room %d: %v, %+v, %d, not %d; steps %d", rows, c.room, out, st, e, c.want, c.s.Steps())
			}
		}
		for _, room := range []int{1, 64} {
			if _, _, e := merge.Run(rows, cmp.Compare[int], room, picks.New(nil, -1)); e != api.OK {
				t.Error(rows, room, e)
			}
		}
	}
}

// stop cancels a run where its picks end, and holds the Stats, and how many are ready then, against what they should be.
func stop(t *testing.T, rows [][]int, room int, l []int, want merge.Stats, ready int) {
	t.Helper()
	is := testRun(t, rows, cmp.Compare[int], room, l, len(l))
	if is.e != api.ErrCancel || is.st != want || len(is.out) != 0 {
		t.Errorf("picks %v: %+v, not %+v", l, is, want)
	}
	m := newModel(rows, cmp.Compare[int], room)
	m.run(l, len(l))
	if n := len(m.ready()); n != ready {
		t.Errorf("picks %v: %d are ready, not %d", l, n, ready)
	}
}

// P11.2: who is ready, step by step: a pick tells it, as it is taken modulo how many there are.
func TestSteps(t *testing.T) {
	rows := [][]int{{1, 3}, {2}}
	// The room is 1: who has sent waits, till the merger has received.
	stop(t, rows, 1, []int{}, merge.Stats{}, 2)
	stop(t, rows, 1, []int{0}, merge.Stats{Steps: 1, Sent: 1}, 2)
	stop(t, rows, 1, []int{0, 0}, merge.Stats{Steps: 2, Sent: 2}, 2)
	// The one thing of the row 1 is sent, so its sender closes a pipe that is full.
	stop(t, rows, 1, []int{0, 0, 0}, merge.Stats{Steps: 3, Sent: 2, Exited: 1}, 1)
	stop(t, rows, 1, []int{0, 0, 0, 0}, merge.Stats{Steps: 4, Sent: 2, Exited: 1}, 2)
	stop(t, rows, 1, []int{0, 0, 0, 0, 1}, merge.Stats{Steps: 5, Sent: 2, Exited: 1}, 2)
	// The merger has both heads, and puts one behind; then it waits for the row 0, whose pipe is neither done nor has anything.
	stop(t, rows, 1, []int{0, 0, 0, 0, 1, 1}, merge.Stats{Steps: 6, Sent: 2, Exited: 1}, 1)
	stop(t, rows, 1, []int{0, 0, 0, 0, 1, 1, 0}, merge.Stats{Steps: 7, Sent: 3, Exited: 1}, 2)
	stop(t, rows, 1, []int{0, 0, 0, 0, 1, 1, 0, 0}, merge.Stats{Steps: 8, Sent: 3, Exited: 2}, 1)
	stop(t, rows, 1, []int{0, 0, 0, 0, 1, 1, 0, 0, 0, 0, 0}, merge.Stats{Steps: 11, Sent: 3, Exited: 2}, 1)
	is := testRun(t, rows, cmp.Compare[int], 1, nil, 12)
	if want := (told[int]{[]int{1, 2, 3}, merge.Stats{Steps: 12, Sent: 3, Exited: 3}, api.OK, 12}); !is.same(want) {
		t.Errorf("%+v, not %+v", is, want)
	}
	// With more room a sender goes on; the merger, which is the last one, takes what is there by the pick -1.
	stop(t, rows, 2, []int{0, 0, 0}, merge.Stats{Steps: 3, Sent: 2, Exited: 1}, 2)
	stop(t, rows, 2, []int{0, -1}, merge.Stats{Steps: 2, Sent: 1}, 2)
	stop(t, rows, 2, []int{0, -1, 1}, merge.Stats{Steps: 3, Sent: 2}, 3)
}

// P11.2: the script is asked for each step with just those that are ready, and it goes on where it was.
func TestScript(t *testing.T) {
	s := picks.New([]int{3, 1, 2, 5, 0, 4, 7}, 40)
	rows := [][]int{{1, 3}, {1, 2}}
	for k := 1; k < 3; k++ {
		out, st, e := merge.Run(rows, cmp.Compare[int], 2, s)
		if !slices.Equal(out, []int{1, 2, 3}) || st != (merge.Stats{Steps: 15, Sent: 4, Exited: 3}) || e != api.OK || s.Steps() != 15*k || s.Used() != 7 {
			t.Error(out, st, e, s.Steps(), s.Used())
		}
	}
	out, st, e := merge.Run(rows, cmp.Compare[int], 2, s)
	// The least one takes each step: the row 0 with its exit, the row 1 with its own, then the merger.
	if len(out) != 0 || st != (merge.Stats{Steps: 10, Sent: 4, Exited: 2}) || e != api.ErrCancel || s.Steps() != 40 {
		t.Error(out, st, e, s.Steps())
	}
	out, st, e = merge.Run(rows, cmp.Compare[int], 2, s)
	if len(out) != 0 || st != (merge.Stats{}) || e != api.ErrCancel || s.Steps() != 40 {
		t.Error(out, st, e, s.Steps())
	}
}

// P11.2, P11.3: without rows the merger exits at once; rows without things are closed, each by a step.
func TestEmpty(t *testing.T) {
	for n := range 4 {
		for cancel := -1; cancel < n+3; cancel++ {
			is := testRun(t, make([][]int, n), cmp.Compare[int], 1, nil, cancel)
			whole := cancel < 0 || cancel > n
			if len(is.out) != 0 || (is.e == api.OK) != whole || whole && is.st != (merge.Stats{Steps: n + 1, Exited: n + 1}) {
				t.Errorf("%d rows, cancelled at %d: %+v", n, cancel, is)
			}
		}
	}
	is := testRun[int](t, nil, cmp.Compare[int], 64, []int{5}, -1)
	if is.st != (merge.Stats{Steps: 1, Exited: 1}) {
		t.Errorf("%+v", is)
	}
}

// P11.2, P11.3: all short scripts, cancelled at any step, with little room, against the model.
func TestShort(t *testing.T) {
	for _, rows := range [][][]card{
		{{{1, "a"}, {3, "b"}}, {{1, "c"}, {2, "d"}}},
		{{{3, "a"}, {1, "b"}}, {{2, "c"}, {2, "d"}}},
		{{{1, "a"}, {1, "b"}, {1, "c"}}},
		{{{1, "a"}}, nil, {{1, "b"}, {0, "c"}}},
		{nil, {{2, "a"}}, {{2, "b"}}, {{1, "c"}}},
	} {
		for room := 1; room < 4; room++ {
			eachList(6, 2, func(l []int) {
				for cancel := -1; cancel < 18; cancel++ {
					testRun(t, rows, byNumber, room, l, cancel)
				}
			})
		}
	}
}

// P11.2, P11.3: any rows, rooms and scripts, cancelled or not, against the model.
func TestLong(t *testing.T) {
	r := rand.New(rand.NewPCG(11, 2))
	for range 600 {
		rows := someRows(r, 12, 40)
		n := 3*things(rows) + len(rows) + 1
		testRun(t, rows, byNumber, 1+r.IntN(64), somePicks(r, n+20), -1)
		testRun(t, rows, byNumber, 1+r.IntN(4), somePicks(r, n+20), r.IntN(n+20))
	}
}

// P11.3: whatever the script and the room, rows make the same; the step at which all is cancelled counts just if it comes ahead of the end.
func TestSame(t *testing.T) {
	r := rand.New(rand.NewPCG(11, 3))
	for range 200 {
		rows := someRows(r, 10, 20)
		want := merge.Rows(rows, byNumber)
		n := 3*things(rows) + len(rows) + 1
		for range 5 {
			room, l := 1+r.IntN(64), somePicks(r, n)
			for _, cancel := range []int{-1, n, n + 1} {
				if is := run(rows, byNumber, room, l, cancel); is.e != api.OK || !slices.Equal(is.out, want) || is.steps != n {
					t.Fatalf("rows %v, room %d, picks %v, cancelled at %d: %+v, not %v", rows, room, l, cancel, is, want)
				}
			}
			if is := run(rows, byNumber, room, l, n-1); is.e != api.ErrCancel || len(is.out) != 0 || is.st != (merge.Stats{Steps: n - 1, Sent: things(rows), Exited: len(rows)}) {
				t.Fatalf("rows %v, room %d, picks %v: %+v", rows, room, l, is)
			}
		}
	}
}

// P11.3: a pipe is as long as its room says: a sender of as many things closes it ahead of anything that is received, one of more things waits.
func TestRoom(t *testing.T) {
	for room := 1; room <= 64; room++ {
		for _, n := range []int{room, room + 1} {
			row := make([]int, n)
			for i := range row {
				row[i] = i
			}
			// The sender 0 goes as far as it can; if it must wait, the next one sends.
			is := run([][]int{row, {7}}, cmp.Compare[int], room, nil, room+1)
			want := merge.Stats{Steps: room + 1, Sent: room, Exited: 1}
			if n > room {
				want = merge.Stats{Steps: room + 1, Sent: room + 1}
			}
			if is.st != want {
				t.Errorf("room %d, %d things: %+v, not %+v", room, n, is.st, want)
			}
		}
	}
}

// P11.3: rows that rise make one that rises, in which nothing stands twice, and each thing once.
func TestRise(t *testing.T) {
	r := rand.New(rand.NewPCG(11, 4))
	for range 500 {
		rows := make([][]int, r.IntN(8))
		var want []int
		for i := range rows {
			for range r.IntN(20) {
				rows[i] = append(rows[i], r.IntN(50)-25)
			}
			slices.Sort(rows[i])
			want = append(want, rows[i]...)
		}
		slices.Sort(want)
		want = slices.Compact(want)
		testRows(t, rows, cmp.Compare[int], want...)
		if is := run(rows, cmp.Compare[int], 1+r.IntN(64), somePicks(r, 300), -1); !slices.Equal(is.out, want) {
			t.Fatal(rows, is.out, want)
		}
	}
}

// P11.3: what is told does not hang on the script even where compare makes no order of things.
func TestRoundabout(t *testing.T) {
	// Each of 0, 1, 2 comes ahead of the next one, going round.
	round := func(a, b int) int { return []int{0, -1, 1}[((b-a)%3+3)%3] }
	r := rand.New(rand.NewPCG(11, 5))
	for range 500 {
		rows := make([][]int, 1+r.IntN(4))
		for i := range rows {
			for range r.IntN(8) {
				rows[i] = append(rows[i], r.IntN(3))
			}
		}
		want := merge.Rows(rows, round)
		for range 5 {
			if is := run(rows, round, 1+r.IntN(4), somePicks(r, 100), -1); is.e != api.OK || !slices.Equal(is.out, want) {
				t.Fatal(rows, is, want)
			}
		}
	}
}

// P11.2: what compare does itself goes on as it is: a panic of it comes through, and a run inside it is one of its own.
func TestCompareItself(t *testing.T) {
	rows := [][]int{{1, 3}, {1, 2}}
	no := func(a, b int) int { panic("no") }
	for _, do := range []func(){
		func() { merge.Rows(rows, no) },
		func() { merge.Run(rows, no, 1, picks.New(nil, -1)) },
	} {
		func() {
			defer func() {
				if recover() != "no" {
					t.Error("the panic of compare does not come through")
				}
			}()
			do()
		}()
	}
	s := picks.New(nil, -1)
	out, st, e := merge.Run(rows, func(a, b int) int {
		if out, _, e := merge.Run(rows, cmp.Compare[int], 1, s); e != api.OK || !slices.Equal(out, []int{1, 2, 3}) {
			t.Error(out, e)
		}
		return a - b
	}, 1, s)
	if e != api.OK || !slices.Equal(out, []int{1, 2, 3}) || st.Steps != 15 {
		t.Error(out, st, e)
	}
}

// Rows are of any type, such as cannot be compared by == too; a thing's own memory goes through as it is.
func TestTypes(t *testing.T) {
	byLength := func(a, b []string) int { return len(a) - len(b) }
	rows := [][][]string{{{"a"}, {"b", "c"}}, {nil, {"d"}}}
	for range 2 {
		out, _, e := merge.Run(rows, byLength, 1, picks.New([]int{1, 1}, -1))
		if e != api.OK || !slices.EqualFunc(out, [][]string{nil, {"a"}, {"b", "c"}}, slices.Equal) {
			t.Errorf("%q %d", out, e)
		}
		if all := merge.Rows(rows, byLength); !slices.EqualFunc(all, out, slices.Equal) || &all[1][0] != &rows[0][0][0] {
			t.Errorf("%q", all)
		}
	}
	byLengthOfAny := func(a, b any) int { return len(a.(string)) - len(b.(string)) }
	if out := merge.Rows([][]any{{"aa", "bbb"}, {"", "cc"}}, byLengthOfAny); !slices.Equal(out, []any{"", "aa", "bbb"}) {
		t.Error(out)
	}
}

// R3: rows are not changed, neither the list of them nor what stands behind; what is told is nobody else's.
func TestLists(t *testing.T) {
	long := []int{1, 3, -7, 1, -8, -9}
	list := [][]int{long[:2], long[3:4], {2}, {-1}}
	check := func(out []int) {
		t.Helper()
		if !slices.Equal(out, []int{1, 2, 3}) {
			t.Error(out)
		}
		if !slices.Equal(long, []int{1, 3, -7, 1, -8, -9}) || len(list[0]) != 2 || len(list[1]) != 1 || !slices.Equal(list[2], []int{2}) || !slices.Equal(list[3], []int{-1}) {
			t.Error("what was handed in is changed", long, list)
		}
		for i := range out {
			out[i] = 77
		}
		_ = append(out, 77)
	}
	for range 2 {
		check(merge.Rows(list[:3], cmp.Compare[int]))
		out, _, e := merge.Run(list[:3], cmp.Compare[int], 2, picks.New([]int{2, 1, 0}, -1))
		if e != api.OK {
			t.Error(e)
		}
		check(out)
	}
	one := []int{5, 6}
	out := merge.Rows([][]int{one}, cmp.Compare[int])
	out[0] = 77
	if one[0] != 5 {
		t.Error("one row alone is told as it is")
	}
}

// R4: what a run tells hangs on its arguments alone; of a script it takes the steps, and nothing else.
func TestApart(t *testing.T) {
	r := rand.New(rand.NewPCG(11, 6))
	for range 100 {
		rows := someRows(r, 6, 10)
		l, room, cancel := somePicks(r, 50), 1+r.IntN(5), r.IntN(120)
		first := run(rows, byNumber, room, l, cancel)
		run(someRows(r, 6, 10), byNumber, 3, l, -1)
		if again := run(rows, byNumber, room, l, cancel); !again.same(first) {
			t.Fatalf("%+v, then %+v", first, again)
		}
	}
}
