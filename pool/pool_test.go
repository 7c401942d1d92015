package pool_test

import (
	"math/rand/v2"
	"slices"
	"testing"

	"coroner/api"
	"coroner/picks"
	"coroner/pool"
)

// deed is a job that was done, and by whom.
type deed struct{ worker, job int }

// told is what a pool and its script tell of a run, and the jobs that were done, in order.
type told struct {
	e                         api.Errno
	deeds                     []deed
	done, stolen, left, steps int
	who                       []int
}

func (a told) same(b told) bool {
	return a.e == b.e && slices.Equal(a.deeds, b.deeds) && a.done == b.done && a.stolen == b.stolen && a.left == b.left && a.steps == b.steps && slices.Equal(a.who, b.who)
}

// none comes of a job.
func none(int, int) []int { return nil }

// comes is what comes of a job: it hangs on the job alone.
func comes(job int) []int {
	switch {
	case job < 10:
		return nil
	case job%3 == 0:
		return []int{job / 10, job / 5, job / 10}
	case job%3 == 1:
		return []int{job / 2}
	}
	return []int{}
}

// all are some jobs, and all that come of them, rising.
func all(l []int) []int {
	var out []int
	for _, x := range l {
		out = append(append(out, x), all(comes(x))...)
	}
	slices.Sort(out)
	return out
}

// made is a pool that may not be refused.
func made(t *testing.T, workers int, s *picks.Script) *pool.Pool[int] {
	t.Helper()
	p, e := pool.New[int](workers, s)
	if e != api.OK || p == nil {
		t.Fatalf("New(%d) tells %v, %d", workers, p, e)
	}
	return p
}

// run is what a pool tells of a run of jobs of which others come.
func run(p *pool.Pool[int], s *picks.Script) told {
	var out told
	out.e = p.Run(func(worker, job int) []int {
		out.deeds = append(out.deeds, deed{worker, job})
		return comes(job)
	})
	out.done, out.stolen, out.left, out.who, out.steps = p.Done(), p.Stolen(), p.Left(), p.Who(), s.Steps()
	return out
}

// testTells holds what a pool tells between runs against what it should.
func testTells(t *testing.T, p *pool.Pool[int], done, stolen, left int, who ...int) {
	t.Helper()
	for range 2 {
		if p.Done() != done || p.Stolen() != stolen || p.Left() != left || !slices.Equal(p.Who(), who) {
			t.Errorf("the pool tells %d, %d, %d, %v, not %d, %d, %d, %v", p.Done(), p.Stolen(), p.Left(), p.Who(), done, stolen, left, who)
		}
	}
}

// model is a pool in the chapter's words: rows whose first job is the top one, and the jobs that are held, a list of one each.
type model struct {
	rows, held         [][]int
	next, done, stolen int
	who                []int
	deeds              []deed
	script             *picks.Script
}

func newModel(workers int, s *picks.Script) *model {
	return &model{rows: make([][]int, workers), held: make([][]int, workers), script: s}
}

func (m *model) add(l ...int) {
	for _, x := range l {
		m.rows[m.next] = append(m.rows[m.next], x)
		m.next++
		if m.next == len(m.rows) {
			m.next = 0
		}
	}
}

func (m *model) ready() []int {
	var out []int
	for k := range m.rows {
		if len(m.held[k]) > 0 || slices.ContainsFunc(m.rows, func(l []int) bool { return len(l) > 0 }) {
			out = append(out, k)
		}
	}
	return out
}

func (m *model) step(k int) {
	m.who = append(m.who, k)
	if len(m.held[k]) > 0 {
		x := m.held[k][0]
		m.deeds = append(m.deeds, deed{k, x})
		m.rows[k] = append(m.rows[k], comes(x)...)
		m.held[k] = nil
		m.done++
		return
	}
	if n := len(m.rows[k]); n > 0 {
		m.held[k] = []int{m.rows[k][n-1]}
		m.rows[k] = m.rows[k][:n-1]
		return
	}
	v := k
	for len(m.rows[v]) == 0 {
		v++
		if v == len(m.rows) {
			v = 0
		}
	}
	m.held[k] = []int{m.rows[v][0]}
	m.rows[v] = m.rows[v][1:]
	m.stolen++
}

func (m *model) run() told {
	m.deeds = nil
	e := api.OK
	for e == api.OK && len(m.ready()) > 0 {
		var k int
		if k, e = m.script.Step(m.ready()); e == api.OK {
			m.step(k)
		}
	}
	left := 0
	for k := range m.rows {
		left += len(m.rows[k]) + len(m.held[k])
	}
	return told{e, m.deeds, m.done, m.stolen, left, m.script.Steps(), m.who}
}

// testRun adds lists of jobs, each one ahead of a run, and holds what is told against the model.
func testRun(t *testing.T, workers int, l []int, cancel int, adds ...[]int) told {
	t.Helper()
	s := picks.New(l, cancel)
	p, m := made(t, workers, s), newModel(workers, picks.New(l, cancel))
	var is told
	for _, add := range adds {
		p.Add(add...)
		m.add(add...)
		is = run(p, s)
		if want := m.run(); !is.same(want) {
			t.Fatalf("%d workers, picks %v, cancelled at %d, jobs %v: told %+v, not %+v", workers, l, cancel, adds, is, want)
		}
	}
	return is
}

// eachList goes through all lists with up to n of the numbers from 0 to top.
func eachList(n, top int, do func(l []int)) {
	var grow func(l []int)
	grow = func(l []int) {
		do(l)
		if len(l) < n {
			for x := range top + 1 {
				grow(append(slices.Clip(l), x))
			}
		}
	}
	grow(nil)
}

// P10.1: ErrWorkers comes ahead of ErrNil; a pool that is refused is none.
func TestNew(t *testing.T) {
	var unmade picks.Script
	script := picks.New([]int{1}, -1)
	for _, c := range []struct {
		workers int
		s       *picks.Script
		want    api.Errno
	}{
		{0, script, api.ErrWorkers},
		{-1, script, api.ErrWorkers},
		{-1 << 63, script, api.ErrWorkers},
		{65, script, api.ErrWorkers},
		{1<<63 - 1, script, api.ErrWorkers},
		{0, nil, api.ErrWorkers},
		{65, &unmade, api.ErrWorkers},
		{1, nil, api.ErrNil},
		{64, nil, api.ErrNil},
		{1, &unmade, api.ErrNil},
		{64, &unmade, api.ErrNil},
		{1, script, api.OK},
		{2, script, api.OK},
		{64, script, api.OK},
		{1, picks.New(nil, 0), api.OK},
		{1, picks.New(nil, -1), api.OK},
	} {
		p, e := pool.New[int](c.workers, c.s)
		if e != c.want || (p != nil) != (c.want == api.OK) {
			t.Errorf("New(%d, %v) tells %v, %d, not %d", c.workers, c.s, p, e, c.want)
		}
		if p != nil {
			testTells(t, p, 0, 0, 0)
		}
	}
	if script.Steps() != 0 || script.Used() != 0 {
		t.Error("a new pool uses its script")
	}
}

// P10.1: a script that is cancelled is one; a pool of it does nothing.
func TestNewCancelled(t *testing.T) {
	s := picks.New(nil, 0)
	p := made(t, 2, s)
	if e := p.Run(none); e != api.OK {
		t.Error("nobody is ready, and still the script is asked:", e)
	}
	p.Add(1, 2, 3)
	if e := p.Run(none); e != api.ErrCancel || s.Steps() != 0 {
		t.Error(e, s.Steps())
	}
	testTells(t, p, 0, 0, 3)
}

// P10.1: jobs go round, and go on behind the worker that was last added to; each worker takes its own last one.
func TestAdd(t *testing.T) {
	s := picks.New([]int{0, 0, 1, 1, 2, 2, 0, 0, 1, 1}, -1)
	p := made(t, 3, s)
	p.Add()
	p.Add(10, 11)
	p.Add()
	p.Add(12, 13, 14)
	testTells(t, p, 0, 0, 5)
	var deeds []deed
	e := p.Run(func(worker, job int) []int {
		deeds = append(deeds, deed{worker, job})
		return nil
	})
	if want := []deed{{0, 13}, {1, 14}, {2, 12}, {0, 10}, {1, 11}}; e != api.OK || !slices.Equal(deeds, want) {
		t.Errorf("%d, %v, not %v", e, deeds, want)
	}
	testTells(t, p, 5, 0, 0, 0, 0, 1, 1, 2, 2, 0, 0, 1, 1)
}

// P10.1: Add goes on behind the last one across runs; 64 workers have a row each.
func TestAddMany(t *testing.T) {
	p := made(t, 64, picks.New(nil, -1))
	var jobs []int
	for k := range 130 {
		p.Add(k)
	}
	e := p.Run(func(worker, job int) []int {
		jobs = append(jobs, job)
		return nil
	})
	// The worker 0 does all: its own three jobs, and those of the others, row by row, each one's first job first.
	want := []int{128, 64, 0, 1, 65, 129}
	for k := 2; k < 64; k++ {
		want = append(want, k, k+64)
	}
	if e != api.OK || !slices.Equal(jobs, want) {
		t.Errorf("%d, %v, not %v", e, jobs, want)
	}
	testTells(t, p, 130, 127, 0, make([]int, 260)...)
	p.Add(7)
	jobs = nil
	p.Run(func(worker, job int) []int {
		jobs = append(jobs, job)
		return nil
	})
	testTells(t, p, 131, 128, 0, make([]int, 262)...)
}

// P10.1: what do itself adds while it runs is added like all else.
func TestAddInRun(t *testing.T) {
	p := made(t, 2, picks.New(nil, -1))
	p.Add(1)
	var deeds []deed
	e := p.Run(func(worker, job int) []int {
		deeds = append(deeds, deed{worker, job})
		if job < 3 {
			p.Add(job+1, 10*job)
		}
		return []int{}
	})
	// 1 adds 2 to 1, and 10 to 0; 10 is 0's own, 2 is stolen, and adds 3 to 1, and 20 to 0.
	if want := []deed{{0, 1}, {0, 10}, {0, 2}, {0, 20}, {0, 3}}; e != api.OK || !slices.Equal(deeds, want) {
		t.Errorf("%d, %v, not %v", e, deeds, want)
	}
	testTells(t, p, 5, 2, 0, make([]int, 10)...)
}

// P10.2: the chapter's example, and one worker's jobs from the last one on.
func TestOneWorker(t *testing.T) {
	is := testRun(t, 1, []int{5, -3}, -1, []int{1, 2})
	if want := (told{api.OK, []deed{{0, 2}, {0, 1}}, 2, 0, 0, 4, []int{0, 0, 0, 0}}); !is.same(want) {
		t.Errorf("%+v, not %+v", is, want)
	}
	is = testRun(t, 1, nil, -1, []int{4, 30})
	if want := (told{api.OK, []deed{{0, 30}, {0, 3}, {0, 6}, {0, 3}, {0, 4}}, 5, 0, 0, 10, make([]int, 10)}); !is.same(want) {
		t.Errorf("%+v, not %+v", is, want)
	}
}

// P10.2: a worker without jobs steals from the next one, going round, and there the first one.
func TestSteal(t *testing.T) {
	for _, c := range []struct {
		thief int
		jobs  []deed
		want  int
	}{
		{0, []deed{{1, 1}, {1, 2}, {2, 3}}, 1},
		{0, []deed{{2, 3}, {3, 4}}, 3},
		{2, []deed{{0, 1}, {1, 2}}, 1},
		{2, []deed{{0, 1}, {1, 2}, {3, 4}}, 4},
		{3, []deed{{2, 3}, {2, 4}}, 3},
		{3, []deed{{1, 1}, {2, 3}, {0, 7}, {0, 8}}, 7},
		{1, []deed{{1, 5}, {1, 6}, {2, 3}}, 6},
	} {
		// Each worker's jobs come of a first one, 100 and so on, that it does ahead of all.
		p := made(t, 4, picks.New([]int{0, 0, 1, 1, 2, 2, 3, 3, c.thief, c.thief}, 10))
		p.Add(100, 101, 102, 103)
		var last deed
		e := p.Run(func(worker, job int) []int {
			last = deed{worker, job}
			var out []int
			for _, x := range c.jobs {
				if job == 100+x.worker {
					out = append(out, x.job)
				}
			}
			return out
		})
		if e != api.ErrCancel || last != (deed{c.thief, c.want}) {
			t.Errorf("of the jobs %v %d takes %v, not %d: %d", c.jobs, c.thief, last, c.want, e)
		}
		stolen := 1
		if slices.Contains(c.jobs, deed{c.thief, c.want}) {
			stolen = 0
		}
		if p.Stolen() != stolen || p.Left() != len(c.jobs)-1 || p.Done() != 5 {
			t.Error(c.jobs, p.Stolen(), p.Left(), p.Done())
		}
	}
}

// P10.2: a worker that holds a job is ready, others that could take none are not; who holds one does it ahead of all else.
func TestReady(t *testing.T) {
	// The worker 2 takes the one job, so nobody else is ready: the pick 0 is 2's.
	is := testRun(t, 3, []int{2, 0}, -1, []int{5})
	if want := (told{api.OK, []deed{{2, 5}}, 1, 1, 0, 2, []int{2, 2}}); !is.same(want) {
		t.Errorf("%+v, not %+v", is, want)
	}
	// 1 and 2 hold the jobs 5 and 6, and nobody is ready but they: the pick 1 is 2's.
	is = testRun(t, 3, []int{1, 2, 1, 0}, -1, []int{5, 6})
	if want := (told{api.OK, []deed{{2, 5}, {1, 6}}, 2, 1, 0, 4, []int{1, 2, 2, 1}}); !is.same(want) {
		t.Errorf("%+v, not %+v", is, want)
	}
	// A job that is held is not stolen.
	is = testRun(t, 2, []int{0, 1, 1, 1, 1, 0}, -1, []int{5, 6, 7})
	if want := (told{api.OK, []deed{{1, 6}, {1, 5}, {0, 7}}, 3, 1, 0, 6, []int{0, 1, 1, 1, 1, 0}}); !is.same(want) {
		t.Errorf("%+v, not %+v", is, want)
	}
}

// P10.2, P10.3: all short scripts, cancelled at any step, with few workers, against the model.
func TestShort(t *testing.T) {
	for _, jobs := range [][]int{nil, {1}, {10}, {12, 1}, {1, 2, 3}, {10, 12, 2, 3}} {
		for workers := 1; workers <= 3; workers++ {
			eachList(5, 2, func(l []int) {
				for cancel := -1; cancel < 6; cancel++ {
					testRun(t, workers, l, cancel, jobs, nil, jobs)
				}
			})
		}
	}
}

// P10.2, P10.3: long runs of any number of workers, against the model.
func TestLong(t *testing.T) {
	r := rand.New(rand.NewPCG(10, 2))
	for range 600 {
		l := make([]int, r.IntN(200))
		for i := range l {
			l[i] = r.IntN(200) - 100
		}
		adds := make([][]int, 1+r.IntN(4))
		for i := range adds {
			adds[i] = make([]int, r.IntN(20))
			for k := range adds[i] {
				adds[i][k] = r.IntN(400)
			}
		}
		testRun(t, 1+r.IntN(64), l, r.IntN(400)-100, adds...)
	}
}

// P10.2: jobs that are held, or in rows, stay where a run is cancelled; a later one is cancelled, too, while there are jobs.
func TestCancel(t *testing.T) {
	s := picks.New([]int{0, 1, 1}, 3)
	p := made(t, 2, s)
	p.Add(1, 2, 3, 4)
	if is, want := run(p, s), (told{api.ErrCancel, []deed{{1, 4}}, 1, 0, 3, 3, []int{0, 1, 1}}); !is.same(want) {
		t.Errorf("%+v, not %+v", is, want)
	}
	if is, want := run(p, s), (told{api.ErrCancel, nil, 1, 0, 3, 3, []int{0, 1, 1}}); !is.same(want) {
		t.Errorf("%+v, not %+v", is, want)
	}
	// Just as many steps as there is work for: nobody is ready any more when all is cancelled.
	s = picks.New(nil, 4)
	p = made(t, 2, s)
	p.Add(1, 2)
	if is := run(p, s); is.e != api.OK || is.left != 0 || !s.Cancelled() {
		t.Errorf("%+v", is)
	}
	if e := p.Run(none); e != api.OK {
		t.Error(e)
	}
}

// P10.2: of a nil do nothing comes of a job.
func TestNilDo(t *testing.T) {
	s := picks.New([]int{1, 1}, 5)
	p := made(t, 2, s)
	p.Add(30, 31, 32, 33)
	if e := p.Run(nil); e != api.ErrCancel {
		t.Error(e)
	}
	testTells(t, p, 2, 0, 2, 1, 1, 0, 0, 0)
	q := made(t, 3, picks.New(nil, -1))
	q.Add(30, 31, 32, 33)
	if e := q.Run(nil); e != api.OK {
		t.Error(e)
	}
	testTells(t, q, 4, 2, 0, make([]int, 8)...)
}

// P10.2: what do does itself goes on as it is: a panic of it leaves the job to be done, and a run inside it does the others' jobs, each once.
func TestDo(t *testing.T) {
	p := made(t, 1, picks.New(nil, -1))
	p.Add(1, 2)
	func() {
		defer func() {
			if recover() != "no" {
				t.Error("the panic of do does not come through")
			}
		}()
		p.Run(func(worker, job int) []int { panic("no") })
	}()
	testTells(t, p, 0, 0, 2, 0, 0)
	if e := p.Run(none); e != api.OK {
		t.Error(e)
	}
	testTells(t, p, 2, 0, 0, 0, 0, 0, 0, 0)
	p = made(t, 2, picks.New(nil, -1))
	p.Add(1, 2, 3, 4, 5)
	var jobs []int
	var do func(worker, job int) []int
	do = func(worker, job int) []int {
		jobs = append(jobs, job)
		if e := p.Run(do); e != api.OK {
			t.Error(e)
		}
		return nil
	}
	if e := p.Run(do); e != api.OK {
		t.Error(e)
	}
	slices.Sort(jobs)
	if !slices.Equal(jobs, []int{1, 2, 3, 4, 5}) || p.Done() != 5 || p.Left() != 0 || len(p.Who()) != 10 {
		t.Error(jobs, p.Done(), p.Left(), p.Who())
	}
}

// P10.3: Left counts jobs that are held and such as are in rows; Done those that were done; all four change nothing.
func TestTells(t *testing.T) {
	for cancel := range 13 {
		s := picks.New([]int{0, 1, 2, 0, 1, 2, 0, 1, 2}, cancel)
		p := made(t, 3, s)
		p.Add(1, 2, 3, 4, 5, 6)
		p.Run(none)
		who := []int{0, 1, 2, 0, 1, 2, 0, 1, 2, 0, 1, 2}[:cancel]
		done := []int{0, 0, 0, 0, 1, 2, 3, 3, 3, 3, 4, 5, 6}[cancel]
		testTells(t, p, done, 0, 6-done, who...)
	}
}

// P10.4: pools that are nil, or that no call made.
func TestUnmade(t *testing.T) {
	for _, p := range []*pool.Pool[int]{nil, {}} {
		p.Add()
		p.Add(1, 2)
		asked := false
		e := p.Run(func(worker, job int) []int {
			asked = true
			return nil
		})
		if e != api.ErrNil || p.Run(nil) != api.ErrNil || asked {
			t.Error(e, asked)
		}
		testTells(t, p, 0, 0, 0)
	}
	var none *pool.Pool[string]
	if none.Run(nil) != api.ErrNil || none.Who() != nil {
		t.Error("a nil pool of words tells something")
	}
}

// P10.5: whatever the script and however many workers there are, the same jobs are done, in twice as many steps as jobs.
func TestSame(t *testing.T) {
	r := rand.New(rand.NewPCG(10, 5))
	for range 300 {
		jobs := make([]int, r.IntN(12))
		for i := range jobs {
			jobs[i] = r.IntN(1000)
		}
		want := all(jobs)
		for range 5 {
			l := make([]int, r.IntN(300))
			for i := range l {
				l[i] = r.IntN(2000) - 1000
			}
			s := picks.New(l, -1)
			p := made(t, 1+r.IntN(64), s)
			p.Add(jobs...)
			is := run(p, s)
			var done []int
			for _, x := range is.deeds {
				done = append(done, x.job)
			}
			slices.Sort(done)
			if is.e != api.OK || !slices.Equal(done, want) || is.done != len(want) || is.left != 0 || is.steps != 2*len(want) || len(is.who) != is.steps {
				t.Fatalf("jobs %v, picks %v: %+v, not %v", jobs, l, is, want)
			}
		}
	}
}

// Pools are of any type; a job's own memory goes through as it is.
func TestTypes(t *testing.T) {
	p, e := pool.New[[]string](2, picks.New([]int{1, 1, 0, 0}, -1))
	if e != api.OK {
		t.Fatal(e)
	}
	p.Add([]string{"a"}, nil, []string{"b", "c"})
	var words []string
	p.Run(func(worker int, job []string) [][]string {
		words = append(words, job...)
		words = append(words, "-")
		return nil
	})
	if !slices.Equal(words, []string{"-", "b", "c", "-", "a", "-"}) {
		t.Errorf("%q", words)
	}
}

// R3: what is handed in, and what do tells, is neither changed nor kept; what is told is nobody else's.
func TestLists(t *testing.T) {
	s := picks.New(nil, -1)
	p := made(t, 2, s)
	l := []int{1, 2, 3, -7, -8}
	p.Add(l[:3]...)
	if !slices.Equal(l, []int{1, 2, 3, -7, -8}) {
		t.Error("Add changes its list", l)
	}
	l[0], l[1], l[2] = 9, 9, 9
	out := []int{4, 5, -9}
	var jobs []int
	p.Run(func(worker, job int) []int {
		if jobs = append(jobs, job); job == 3 {
			return out[:2]
		}
		if job == 5 {
			if !slices.Equal(out, []int{4, 5, -9}) {
				t.Error("Run changes what do tells", out)
			}
			out[0], out[1] = 0, 0
		}
		return nil
	})
	if !slices.Equal(jobs, []int{3, 5, 4, 1, 2}) {
		t.Error("a list that was handed in is kept", jobs)
	}
	who := p.Who()
	for i := range who {
		who[i] = 77
	}
	_ = append(who, 77)
	p.Add(1)
	p.Run(nil)
	testTells(t, p, 6, 2, 0, make([]int, 12)...)
}

// R4: two pools have nothing in common but a script that both go by.
func TestApart(t *testing.T) {
	s := picks.New([]int{1, 1, 0, 0, 1, 1}, 6)
	a, b := made(t, 2, s), made(t, 2, s)
	a.Add(1, 2)
	b.Add(3, 4, 5)
	testTells(t, a, 0, 0, 2)
	if e := a.Run(none); e != api.OK {
		t.Error(e)
	}
	testTells(t, a, 2, 0, 0, 1, 1, 0, 0)
	testTells(t, b, 0, 0, 3)
	if e := b.Run(none); e != api.ErrCancel {
		t.Error(e)
	}
	testTells(t, b, 1, 0, 2, 1, 1)
	testTells(t, a, 2, 0, 0, 1, 1, 0, 0)
}
