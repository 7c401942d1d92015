package pipe_test

import (
	"math/rand/v2"
	"slices"
	"testing"

	"coroner/api"
	"coroner/pipe"
)

// open is a new pipe, which must be one.
func open[T any](t *testing.T, room int) *pipe.Pipe[T] {
	t.Helper()
	p, e := pipe.New[T](room)
	if p == nil || e != api.OK {
		t.Fatalf("New(%d) tells the error %d", room, e)
	}
	return p
}

// testSend holds what Send answers against what it should.
func testSend[T any](t *testing.T, p *pipe.Pipe[T], x T, want api.Errno) {
	t.Helper()
	if e := p.Send(x); e != want {
		t.Errorf("Send tells the error %d, not %d", e, want)
	}
}

// testRecv holds what Recv answers against what it should.
func testRecv[T comparable](t *testing.T, p *pipe.Pipe[T], want T, wantE api.Errno) {
	t.Helper()
	if x, e := p.Recv(); x != want || e != wantE {
		t.Errorf("Recv tells %v, %d, not %v, %d", x, e, want, wantE)
	}
}

// testClose holds what Close answers against what it should.
func testClose[T any](t *testing.T, p *pipe.Pipe[T], want api.Errno) {
	t.Helper()
	if e := p.Close(); e != want {
		t.Errorf("Close tells the error %d, not %d", e, want)
	}
}

// state is what a pipe tells, asked without a change of it.
type state struct {
	room, length, sent, received int
	closed, done                 bool
}

func stateOf[T any](p *pipe.Pipe[T]) state {
	sent, received := p.Counts()
	return state{p.Room(), p.Len(), sent, received, p.Closed(), p.Done()}
}

func testState[T any](t *testing.T, p *pipe.Pipe[T], want state) {
	t.Helper()
	for range 2 {
		if s := stateOf(p); s != want {
			t.Errorf("the pipe tells %+v, not %+v", s, want)
		}
	}
}

// model is a pipe of numbers, in the chapter's words: all that was sent, and how many of it are received.
type model struct {
	room, received int
	sent           []int
	closed         bool
}

func (m *model) length() int { return len(m.sent) - m.received }

func (m *model) send(x int) api.Errno {
	switch {
	case m.closed:
		return api.ErrClosed
	case m.length() >= m.room:
		return api.ErrFull
	}
	m.sent = append(m.sent, x)
	return api.OK
}

func (m *model) recv() (int, api.Errno) {
	switch {
	case m.length() > 0:
		m.received++
		return m.sent[m.received-1], api.OK
	case m.closed:
		return 0, api.ErrClosed
	}
	return 0, api.ErrEmpty
}

func (m *model) close() api.Errno {
	if m.closed {
		return api.ErrClosed
	}
	m.closed = true
	return api.OK
}

func (m *model) state() state {
	return state{m.room, m.length(), len(m.sent), m.received, m.closed, m.closed && m.length() == 0}
}

// pair is a pipe, and its model.
type pair struct {
	p    *pipe.Pipe[int]
	m    *model
	next int
}

func newPair(t *testing.T, room int) *pair {
	t.Helper()
	return &pair{p: open[int](t, room), m: &model{room: room}}
}

// send sends a number that never was sent, also where it is refused.
func (a *pair) send(t *testing.T) {
	t.Helper()
	a.next++
	testSend(t, a.p, a.next, a.m.send(a.next))
	testState(t, a.p, a.m.state())
}

func (a *pair) recv(t *testing.T) {
	t.Helper()
	x, e := a.m.recv()
	testRecv(t, a.p, x, e)
	testState(t, a.p, a.m.state())
}

func (a *pair) close(t *testing.T) {
	t.Helper()
	testClose(t, a.p, a.m.close())
	testState(t, a.p, a.m.state())
}

// empty receives all that is left, and one more.
func (a *pair) empty(t *testing.T) {
	t.Helper()
	for range a.m.length() + 1 {
		a.recv(t)
	}
}

// P8.1: a room may be from 1 to MaxRoom; a new pipe is open, and has nothing.
func TestNew(t *testing.T) {
	for room := -70; room < 140; room++ {
		p, e := pipe.New[int](room)
		if room < 1 || room > 64 {
			if p != nil || e != api.ErrArg {
				t.Errorf("New(%d) tells the error %d, not %d", room, e, api.ErrArg)
			}
			continue
		}
		if p == nil || e != api.OK {
			t.Fatalf("New(%d) tells the error %d", room, e)
		}
		testState(t, p, state{room: room})
	}
	const great = 1<<63 - 1
	for _, room := range []int{great, -great - 1, 1 << 32, 1<<32 + 1, 1<<16 + 1, 257, 256} {
		if p, e := pipe.New[string](room); p != nil || e != api.ErrArg {
			t.Errorf("New(%d) tells the error %d, not %d", room, e, api.ErrArg)
		}
	}
}

// P8.2: the chapter's examples.
func TestExample(t *testing.T) {
	p := open[string](t, 1)
	testSend(t, p, "a", api.OK)
	testSend(t, p, "b", api.ErrFull)
	testClose(t, p, api.OK)
	testRecv(t, p, "a", api.OK)
	testRecv(t, p, "", api.ErrClosed)
}

// P8.1: what a pipe tells, from one call to the next.
func TestStates(t *testing.T) {
	p := open[int](t, 3)
	testSend(t, p, 5, api.OK)
	testState(t, p, state{room: 3, length: 1, sent: 1})
	testSend(t, p, 6, api.OK)
	testState(t, p, state{room: 3, length: 2, sent: 2})
	testRecv(t, p, 5, api.OK)
	testState(t, p, state{room: 3, length: 1, sent: 2, received: 1})
	testClose(t, p, api.OK)
	testState(t, p, state{room: 3, length: 1, sent: 2, received: 1, closed: true})
	testRecv(t, p, 6, api.OK)
	testState(t, p, state{room: 3, sent: 2, received: 2, closed: true, done: true})
	unused := open[int](t, 3)
	testClose(t, unused, api.OK)
	testState(t, unused, state{room: 3, closed: true, done: true})
}

// P8.2: what is refused is told by the error that the chapter names first, and changes nothing.
func TestRefused(t *testing.T) {
	p := open[int](t, 2)
	testRecv(t, p, 0, api.ErrEmpty)
	testState(t, p, state{room: 2})
	testSend(t, p, 1, api.OK)
	testSend(t, p, 2, api.OK)
	full := state{room: 2, length: 2, sent: 2}
	testSend(t, p, 3, api.ErrFull)
	testState(t, p, full)
	testClose(t, p, api.OK)
	full.closed = true
	testSend(t, p, 4, api.ErrClosed) // it is full, too
	testState(t, p, full)
	testClose(t, p, api.ErrClosed)
	testState(t, p, full)
	testRecv(t, p, 1, api.OK)
	testSend(t, p, 5, api.ErrClosed)
	testRecv(t, p, 2, api.OK)
	done := state{room: 2, sent: 2, received: 2, closed: true, done: true}
	testState(t, p, done)
	testRecv(t, p, 0, api.ErrClosed)
	testSend(t, p, 6, api.ErrClosed)
	testClose(t, p, api.ErrClosed)
	testState(t, p, done)
}

// P8.1, P8.2, P8.4: all short rows of calls, with little room.
func TestShortRows(t *testing.T) {
	for room := 1; room <= 4; room++ {
		for n := range 9 {
			rows := 1
			for range n {
				rows *= 3
			}
			for row := range rows {
				a := newPair(t, room)
				for k := row + rows; k >= 3; k /= 3 {
					switch k % 3 {
					case 0:
						a.send(t)
					case 1:
						a.recv(t)
					case 2:
						a.close(t)
					}
				}
				a.empty(t)
				if t.Failed() {
					t.Fatalf("after the row of calls %d of %d, with room for %d", row, n, room)
				}
			}
		}
	}
}

// P8.1, P8.2, P8.4: long rows of calls, with any room, in times in which one of them comes more often.
func TestLongRows(t *testing.T) {
	r := rand.New(rand.NewPCG(8, 1))
	for room := 1; room <= api.MaxRoom; room++ {
		for range 5 {
			a := newPair(t, room)
			for range 12 {
				often := r.IntN(11)
				for range r.IntN(2*room + 20) {
					if r.IntN(10) < often {
						a.send(t)
					} else {
						a.recv(t)
					}
				}
			}
			a.close(t)
			for range r.IntN(5) {
				a.send(t)
				a.recv(t)
				a.close(t)
			}
			a.empty(t)
			if t.Failed() {
				t.Fatalf("with room for %d", room)
			}
		}
	}
}

// P8.4: there are never more things in a pipe than it has room for, and there is room again for each one that is received.
func TestFull(t *testing.T) {
	for room := 1; room <= api.MaxRoom; room++ {
		a := newPair(t, room)
		for range room {
			a.send(t)
		}
		for k := range 3 * room {
			testSend(t, a.p, -1, api.ErrFull)
			testSend(t, a.p, -2, api.ErrFull)
			testState(t, a.p, state{room: room, length: room, sent: room + k, received: k})
			a.recv(t)
			a.send(t)
		}
		a.empty(t)
		for range room + 2 {
			a.send(t)
		}
		a.close(t)
		a.empty(t)
		if t.Failed() {
			t.Fatalf("with room for %d", room)
		}
	}
}

// P8.4: what is received is what was sent, in order, however many things go through.
func TestOrder(t *testing.T) {
	r := rand.New(rand.NewPCG(8, 4))
	for _, room := range []int{1, 2, 3, 5, 33, 64} {
		p := open[int](t, room)
		var sent, received []int
		for x := range 20000 {
			for r.IntN(2) == 0 || p.Len() == room {
				y, e := p.Recv()
				if e != api.OK {
					break
				}
				received = append(received, y)
			}
			if p.Send(x) == api.OK {
				sent = append(sent, x)
			}
			if p.Len() > room {
				t.Fatalf("%d things are in it, with room for %d", p.Len(), room)
			}
		}
		testClose(t, p, api.OK)
		for !p.Done() {
			y, e := p.Recv()
			if e != api.OK {
				t.Fatalf("Recv tells the error %d ahead of the end", e)
			}
			received = append(received, y)
		}
		if !slices.Equal(sent, received) || len(sent) != 20000 {
			t.Errorf("with room for %d, %d things are sent, and %d others are received", room, len(sent), len(received))
		}
		testState(t, p, state{room: room, sent: 20000, received: 20000, closed: true, done: true})
	}
}

// P8.2: things of any type, and what is told where there is none of them.
func TestTypes(t *testing.T) {
	type thing struct {
		name string
		at   [2]float64
	}
	x, y := thing{"x", [2]float64{1, 2}}, thing{"y", [2]float64{3, 4}}
	testType(t, x, y)
	testType(t, &x, &y)
	testType(t, "", "word") // a thing that is the zero value is a thing
	testType(t, 0, 0)
	testType(t, false, true)
	testType(t, struct{}{}, struct{}{})
	testType[any](t, nil, 5)
	testType(t, open[int](t, 1), nil)
	lists := open[[]int](t, 2)
	testSend(t, lists, []int{1, 2}, api.OK)
	testSend(t, lists, nil, api.OK)
	if l, e := lists.Recv(); !slices.Equal(l, []int{1, 2}) || e != api.OK {
		t.Errorf("Recv tells %v, %d", l, e)
	}
	if l, e := lists.Recv(); l != nil || e != api.OK {
		t.Errorf("Recv tells %v, %d", l, e)
	}
	if l, e := lists.Recv(); l != nil || e != api.ErrEmpty {
		t.Errorf("Recv tells %v, %d", l, e)
	}
	funcs := open[func() int](t, 1)
	testSend(t, funcs, func() int { return 7 }, api.OK)
	if f, e := funcs.Recv(); e != api.OK || f() != 7 {
		t.Error("the function is not received")
	}
	if f, e := funcs.Recv(); e != api.ErrEmpty || f != nil {
		t.Error("a function is received where there is none")
	}
}

func testType[T comparable](t *testing.T, x, y T) {
	t.Helper()
	var zero T
	p := open[T](t, 2)
	testRecv(t, p, zero, api.ErrEmpty)
	testSend(t, p, x, api.OK)
	testSend(t, p, y, api.OK)
	testSend(t, p, x, api.ErrFull)
	testRecv(t, p, x, api.OK)
	testSend(t, p, x, api.OK)
	testClose(t, p, api.OK)
	testRecv(t, p, y, api.OK)
	testRecv(t, p, x, api.OK)
	testRecv(t, p, zero, api.ErrClosed)
	testState(t, p, state{room: 2, sent: 3, received: 3, closed: true, done: true})
	testUnmade(t, nil, x)
	testUnmade(t, &pipe.Pipe[T]{}, x)
}

// testUnmade makes all calls of a pipe that no call made, in some orders.
func testUnmade[T comparable](t *testing.T, p *pipe.Pipe[T], x T) {
	t.Helper()
	var zero T
	calls := []func(){
		func() { testSend(t, p, x, api.ErrNil) },
		func() { testRecv(t, p, zero, api.ErrNil) },
		func() { testClose(t, p, api.ErrNil) },
	}
	testState(t, p, state{})
	for k := range 27 {
		for _, at := range []int{k % 3, k / 3 % 3, k / 9} {
			calls[at]()
			testState(t, p, state{})
		}
	}
}

// P8.3: pipes that are nil, or that no call made.
func TestUnmade(t *testing.T) {
	testUnmade(t, nil, 5)
	testUnmade(t, new(pipe.Pipe[int]), 5)
	var p pipe.Pipe[string]
	testUnmade(t, &p, "a")
	refused, _ := pipe.New[int](65)
	testUnmade(t, refused, 5)
}

// R4: two pipes have nothing in common.
func TestApart(t *testing.T) {
	a, b := open[int](t, 2), open[int](t, 3)
	testSend(t, a, 1, api.OK)
	testSend(t, b, 2, api.OK)
	testSend(t, a, 3, api.OK)
	testClose(t, a, api.OK)
	testSend(t, b, 4, api.OK)
	testRecv(t, b, 2, api.OK)
	testRecv(t, a, 1, api.OK)
	testState(t, a, state{room: 2, length: 1, sent: 2, received: 1, closed: true})
	testState(t, b, state{room: 3, length: 1, sent: 2, received: 1})
}
