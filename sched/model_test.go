package sched_test

import (
	"slices"
	"testing"

	"orpiment/api"
	"orpiment/partition"
	"orpiment/sched"
	"orpiment/sporadic"
)

// model is a scheduler that follows the definitions: its queue is a plain list, and it finds the best thread by comparing all.
type model struct {
	partition.Config
	meter   *partition.Meter
	threads map[int]*modelThread
	queue   []int
	told    int64
	charged map[int64]bool
}

type modelThread struct {
	state
	server *sporadic.Server
}

func modelOf(t *testing.T, c partition.Config) *model {
	t.Helper()
	meter, e := partition.New(c)
	if e != api.OK {
		t.Fatal(e)
	}
	return &model{Config: c, meter: meter, threads: map[int]*modelThread{}, charged: map[int64]bool{}}
}

func (m *model) isValid(p params) bool {
	server := p.Server == sporadic.Params{}
	slice := p.Slice == 0
	switch p.Policy {
	case sched.FIFO:
	case sched.RoundRobin:
		slice = p.Slice >= 1 && p.Slice <= 1000
	case sched.Sporadic:
		server = sporadic.Check(p.Server) == api.OK
	default:
		return false
	}
	return server && slice && p.Mask >= 1 && p.Mask <= 255 && p.Part >= 0 && p.Part < len(m.Parts)
}

func (m *model) set(x *modelThread, p params) {
	x.Params, x.Left = p, p.Slice
	x.server, _ = sporadic.New(p.Server)
}

func (m *model) add(thread, priority int, p params) api.Errno {
	switch {
	case thread < 0 || thread > 255 || priority < 0 || priority > 255:
		return api.ErrRange
	case m.threads[thread] != nil:
		return api.ErrExist
	case !m.isValid(p):
		return api.ErrInvalid
	}
	x := &modelThread{state: state{Number: thread, Priority: priority, Last: -1}}
	m.set(x, p)
	m.threads[thread] = x
	return api.OK
}

func (m *model) leave(thread int) {
	m.queue = slices.DeleteFunc(m.queue, func(n int) bool { return n == thread })
}

func (m *model) toBack(thread int) {
	m.leave(thread)
	m.queue = append(m.queue, thread)
}

func (m *model) remove(thread int) api.Errno {
	if m.threads[thread] == nil {
		return api.ErrNoProcess
	}
	delete(m.threads, thread)
	m.leave(thread)
	return api.OK
}

// move is Ready, Block and Yield: from and to tell whether the thread is ready before and behind it.
func (m *model) move(thread int, from, to bool) api.Errno {
	x := m.threads[thread]
	switch {
	case x == nil:
		return api.ErrNoProcess
	case x.Ready != from:
		return api.ErrState
	}
	x.Ready = to
	if !to {
		m.leave(thread)
		return api.OK
	}
	m.toBack(thread)
	x.Left = x.Params.Slice
	return api.OK
}

func (m *model) setPriority(thread, priority int) api.Errno {
	x := m.threads[thread]
	switch {
	case priority < 0 || priority > 255:
		return api.ErrRange
	case x == nil:
		return api.ErrNoProcess
	}
	if x.Ready && x.Priority != priority {
		m.toBack(thread)
	}
	x.Priority = priority
	return api.OK
}

func (m *model) setParams(thread int, p params) api.Errno {
	switch {
	case m.threads[thread] == nil:
		return api.ErrNoProcess
	case !m.isValid(p):
		return api.ErrInvalid
	}
	m.set(m.threads[thread], p)
	return api.OK
}

func (m *model) isEligible(now int64, x *modelThread) bool {
	budget, _ := m.meter.HasBudget(now, x.Params.Part)
	bankrupt, _ := m.meter.Bankrupt(now, x.Params.Part)
	return budget || x.Params.Critical && !bankrupt
}

func (m *model) current(now int64, x *modelThread) int {
	if x.Params.Policy != sched.Sporadic {
		return x.Priority
	}
	priority, _ := x.server.Priority(now, x.Priority)
	return priority
}

// precedes reports whether a thread precedes another one that stands before it in the queue.
func (m *model) precedes(now int64, a, b *modelThread) bool {
	if x, y := m.isEligible(now, a), m.isEligible(now, b); x != y {
		return x
	}
	if x, y := m.current(now, a), m.current(now, b); x != y {
		return x > y
	}
	order, _ := m.meter.Compare(now, a.Params.Part, b.Params.Part)
	return a.Params.Part != b.Params.Part && order < 0
}

func (m *model) ranking(now int64) []int {
	var order []int
	left := slices.Clone(m.queue)
	for len(left) > 0 {
		best := 0
		for i := range left {
			if m.precedes(now, m.threads[left[i]], m.threads[left[best]]) {
				best = i
			}
		}
		order = append(order, left[best])
		left = slices.Delete(left, best, best+1)
	}
	return order
}

func (m *model) pick(now int64, held []int) []int {
	seats := slices.Clone(held)
	for _, thread := range m.ranking(now) {
		x := m.threads[thread]
		if slices.Contains(held, thread) {
			continue
		}
		for _, p := range []int{x.Last, 0, 1, 2, 3, 4, 5, 6, 7} {
			if p >= 0 && p < m.Processors && seats[p] == idle && x.Params.Mask&(1<<p) != 0 {
				seats[p] = thread
				break
			}
		}
	}
	return seats
}

// error returns the error of a call with a time and a list of threads; the list of Ranking is that of idle processors.
func (m *model) error(now int64, list []int, masked bool) api.Errno {
	if now < 0 || now > api.MaxTime {
		return api.ErrRange
	}
	if len(list) != m.Processors {
		return api.ErrInvalid
	}
	for p, thread := range list {
		x := m.threads[thread]
		if thread != idle && (x == nil || !x.Ready || slices.Index(list, thread) != p || masked && x.Params.Mask&(1<<p) == 0) {
			return api.ErrInvalid
		}
	}
	if now < m.told {
		return api.ErrOrder
	}
	return api.OK
}

func (m *model) charge(now int64, running []int) {
	var slices []int
	for p, thread := range running {
		if thread == idle {
			continue
		}
		x := m.threads[thread]
		x.Last = p
		budget, _ := m.meter.HasBudget(now, x.Params.Part)
		m.meter.Charge(now, x.Params.Part, !budget && x.Params.Critical)
		switch x.Params.Policy {
		case sched.Sporadic:
			if left, _ := x.server.Budget(now); left > 0 {
				x.server.Run(now)
			}
		case sched.RoundRobin:
			slices = append(slices, thread)
		}
	}
	for _, thread := range slices {
		x := m.threads[thread]
		x.Left--
		if x.Left == 0 {
			x.Left = x.Params.Slice
			m.toBack(thread)
		}
	}
	m.charged[now] = true
}

func (m *model) state() []state {
	var list []state
	for thread := range api.MaxThreads {
		if x := m.threads[thread]; x != nil {
			list = append(list, x.state)
		}
	}
	return list
}

// numbers is a sequence of numbers that looks random and is the same in each run.
type numbers uint32

func (n *numbers) below(end int) int {
	*n = *n*1664525 + 1013904223
	return int(*n>>8) % end
}

// of returns one of some values.
func of[T any](n *numbers, values ...T) T { return values[n.below(len(values))] }

// run is a scheduler beside its model.
type run struct {
	t *testing.T
	s *scheduler
	m *model
	numbers
	picked, charged, full int // how often it picked, charged, and had a processor for no thread
}

func (r *run) thread() int {
	if r.below(50) == 0 {
		return of(&r.numbers, wrongThreads...)
	}
	return r.below(12) * 20
}

func (r *run) priority() int {
	if r.below(50) == 0 {
		return of(&r.numbers, wrongPriorities...)
	}
	return of(&r.numbers, 0, 10, 10, 10, 11, 12, 20, 255)
}

func (r *run) params() params {
	if r.below(20) == 0 {
		return of(&r.numbers, invalid()...)
	}
	p := params{Policy: r.below(3), Mask: of(&r.numbers, 1, 2, 3, 4, 5, 6, 7, 255, 255), Part: r.below(len(r.m.Parts)), Critical: r.below(2) == 0}
	switch p.Policy {
	case sched.RoundRobin:
		p.Slice = 1 + r.below(3)
	case sched.Sporadic:
		budget := 1 + int64(r.below(4))
		p.Server = sporadic.Params{Budget: budget, Period: budget + int64(r.below(8)), Pending: 1 + r.below(3), Low: r.below(13)}
	}
	return p
}

func (r *run) time() int64 {
	switch r.below(40) {
	case 0:
		return of(&r.numbers, wrongTimes...)
	case 1:
		return r.m.told - 1
	case 2, 3:
		return r.m.told + int64(r.below(15))
	}
	return r.m.told + int64(r.below(2))
}

// list returns a list of threads for processors: mostly one that is right, of threads of a ranking.
func (r *run) list(ranking []int, masked bool) []int {
	list := free(r.m.Processors)
	if r.below(30) == 0 {
		return of(&r.numbers, nil, list[1:], append(list, idle))
	}
	for p := range list {
		switch thread := r.thread(); {
		case r.below(60) == 0:
			list[p] = thread
		case r.below(4) == 0 && len(ranking) > 0:
			thread = of(&r.numbers, ranking...)
			if !slices.Contains(list, thread) && (!masked || r.m.threads[thread].Params.Mask&(1<<p) != 0) {
				list[p] = thread
			}
		}
	}
	return list
}

func (r *run) expect(call string, got, want api.Errno) {
	r.t.Helper()
	if got != want {
		r.t.Fatalf("%s: %v; want %v", call, got, want)
	}
}

// change makes a call that tells no time.
func (r *run) change() {
	r.t.Helper()
	thread := r.thread()
	switch r.below(9) {
	case 0, 1:
		priority, p := r.priority(), r.params()
		r.expect("Add", r.s.Add(thread, priority, p), r.m.add(thread, priority, p))
	case 2:
		if r.below(4) == 0 {
			r.expect("Remove", r.s.Remove(thread), r.m.remove(thread))
		}
	case 3, 4, 5:
		r.expect("Ready", r.s.Ready(thread), r.m.move(thread, false, true))
	case 6:
		if r.below(2) == 0 {
			r.expect("Block", r.s.Block(thread), r.m.move(thread, true, false))
			return
		}
		r.expect("Yield", r.s.Yield(thread), r.m.move(thread, true, true))
	case 7:
		priority := r.priority()
		r.expect("SetPriority", r.s.SetPriority(thread, priority), r.m.setPriority(thread, priority))
	case 8:
		p := r.params()
		r.expect("SetParams", r.s.SetParams(thread, p), r.m.setParams(thread, p))
	}
}

func (r *run) ranking() {
	r.t.Helper()
	now := r.time()
	want := r.m.error(now, free(r.m.Processors), false)
	got, e := r.s.Ranking(now)
	r.expect("Ranking", e, want)
	var list []int
	if want == api.OK {
		list = r.m.ranking(now)
		r.m.told = now
	}
	if !slices.Equal(got, list) {
		r.t.Fatalf("Ranking(%d) = %v; want %v", now, got, list)
	}
}

func (r *run) pick() {
	r.t.Helper()
	now, held := r.time(), r.list(r.m.queue, true)
	want := r.m.error(now, held, true)
	got, e := r.s.Pick(now, held)
	r.expect("Pick", e, want)
	if want != api.OK {
		if len(got) != 0 {
			r.t.Fatalf("Pick(%d, %v) = %v, %v", now, held, got, e)
		}
		return
	}
	r.m.told = now
	if list := r.m.pick(now, held); !slices.Equal(got, list) {
		r.t.Fatalf("Pick(%d, %v) = %v; want %v", now, held, got, list)
	}
	r.consequences(now, held, got)
	r.picked++
}

// charge charges what was picked, or some other threads.
func (r *run) charge() {
	r.t.Helper()
	now := r.time()
	running := r.list(r.m.queue, false)
	if r.below(3) > 0 && now >= r.m.told && now <= api.MaxTime {
		running = r.m.pick(now, free(r.m.Processors))
	}
	want := r.m.error(now, running, false)
	if want == api.OK && r.m.charged[now] {
		want = api.ErrOrder
	}
	r.expect("Charge", r.s.Charge(now, running), want)
	if want == api.OK {
		r.m.charge(now, running)
		r.m.told = now
		r.charged++
	}
}

// consequences checks the properties of P6.6.
func (r *run) consequences(now int64, held, picked []int) {
	r.t.Helper()
	m := r.m
	uses := func(thread, p int) bool { return m.threads[thread].Params.Mask&(1<<p) != 0 }
	for p, thread := range picked {
		if thread != idle && (slices.Index(picked, thread) != p || !uses(thread, p)) {
			r.t.Fatalf("thread %d is not alone on processor %d, or may not be there: %v", thread, p, picked)
		}
	}
	ranking := m.ranking(now)
	if len(picked) == 1 && held[0] == idle {
		want := idle
		if i := slices.IndexFunc(ranking, func(thread int) bool { return uses(thread, 0) }); i >= 0 {
			want = ranking[i]
		}
		if picked[0] != want {
			r.t.Fatalf("%d runs; the ranking is %v", picked[0], ranking)
		}
	}
	for _, waiting := range ranking {
		if slices.Contains(picked, waiting) {
			continue
		}
		x := m.threads[waiting]
		for p, thread := range picked {
			switch {
			case !uses(waiting, p) || held[p] != idle:
			case thread == idle:
				r.t.Fatalf("processor %d is free, and thread %d waits: %v", p, waiting, picked)
			case m.isEligible(now, x) == m.isEligible(now, m.threads[thread]) && m.current(now, x) > m.current(now, m.threads[thread]):
				r.t.Fatalf("thread %d waits for %d: %v", waiting, thread, picked)
			default:
				r.full++
			}
		}
	}
}

func (r *run) step() {
	r.t.Helper()
	switch r.below(8) {
	case 0, 1, 2:
		r.change()
	case 3:
		r.ranking()
	case 4, 5:
		r.pick()
	default:
		r.charge()
	}
	if got, want := r.s.State(), r.m.state(); !slices.Equal(got, want) {
		r.t.Fatalf("State() = %v; want %v", got, want)
	}
}

// P6.1 to P6.6: a scheduler has the results of its definitions, whatever is called, and their consequences.
func TestSchedulerIsItsModel(t *testing.T) {
	for i, c := range []partition.Config{
		{Window: 100, Processors: 1, Parts: []partition.Part{part(100, 0)}},
		{Window: 4, Processors: 1, Parts: []partition.Part{part(50, 25), part(50, 0)}},
		{Window: 1, Processors: 3, Parts: []partition.Part{part(50, 20), part(50, 50)}},
		{Window: 10, Processors: 2, Parts: []partition.Part{part(30, 10), part(0, 20), part(70, 0)}},
		{Window: 7, Processors: 3, Parts: []partition.Part{part(20, 10), part(20, 0), part(60, 15)}},
		{Window: 20, Processors: 8, Parts: []partition.Part{part(10, 5), part(0, 0), part(90, 3), part(0, 1)}},
	} {
		for seed := range 4 {
			r := &run{t: t, s: made(t, c), m: modelOf(t, c), numbers: numbers(10*i + seed)}
			for range 4000 {
				r.step()
			}
			if r.picked < 500 || r.charged < 200 || c.Processors < 4 && r.full < 100 {
				t.Fatalf("%v, seed %d: only %d were picked, %d charged, %d full", c, seed, r.picked, r.charged, r.full)
			}
		}
	}
}

// Pick is Assign for the ranking.
func TestPickIsAssign(t *testing.T) {
	c := partition.Config{Window: 7, Processors: 3, Parts: []partition.Part{part(20, 10), part(20, 0), part(60, 15)}}
	r := &run{t: t, s: made(t, c), m: modelOf(t, c), numbers: 1}
	for range 4000 {
		r.step()
		ranking, _ := r.s.Ranking(r.m.told)
		var l []sched.Ranked
		for _, thread := range ranking {
			x := stateOf(t, r.s, thread)
			l = append(l, ranked(thread, x.Last, x.Params.Mask))
		}
		held := r.list(ranking, true)
		got, e := sched.Assign(c, l, held)
		if want, wantError := r.s.Pick(r.m.told, held); !slices.Equal(got, want) || e != wantError {
			t.Fatalf("Assign(%v, %v) = %v, %v; want %v, %v", l, held, got, e, want, wantError)
		}
	}
}
