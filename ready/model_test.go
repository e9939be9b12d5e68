package ready_test

import (
	"slices"
	"testing"

	"orpiment/api"
	"orpiment/ready"
)

// model is a queue as a plain list in the order of the queue.
type model []entry

func (m *model) add(x entry, front bool) {
	at := slices.IndexFunc(*m, func(y entry) bool { return y.priority < x.priority || front && y.priority == x.priority })
	if at < 0 {
		at = len(*m)
	}
	*m = slices.Insert(*m, at, x)
}

func (m model) find(thread int) int {
	return slices.IndexFunc(m, func(x entry) bool { return x.thread == thread })
}

func (m *model) remove(thread int) (entry, bool) {
	at := m.find(thread)
	if at < 0 {
		return entry{}, false
	}
	x := (*m)[at]
	*m = slices.Delete(*m, at, at+1)
	return x, true
}

func (m model) best(processor int) int {
	for _, x := range m {
		if x.mask&(1<<processor) != 0 {
			return x.thread
		}
	}
	return -1
}

func (m model) first(priority int) int {
	for _, x := range m {
		if x.priority == priority {
			return x.thread
		}
	}
	return -1
}

func (m model) state() state {
	s := state{len: len(m), greatest: -1}
	for thread := range s.priorities {
		s.priorities[thread] = -1
	}
	for _, x := range m {
		s.order = append(s.order, x.thread)
		s.greatest = max(s.greatest, x.priority)
		s.priorities[x.thread] = x.priority
	}
	for processor := range s.best {
		s.best[processor] = m.best(processor)
	}
	return s
}

// numbers is a sequence of numbers that looks random and is the same in each run.
type numbers uint32

func (n *numbers) below(end int) int {
	*n = *n*1664525 + 1013904223
	return int(*n>>8) % end
}

func errorIf(failed bool, e api.Errno) api.Errno {
	if failed {
		return e
	}
	return api.OK
}

// step makes one call on both queues, and returns the errors of the queue and of the model.
func step(q *ready.Queue, m *model, n *numbers, threads, priorities int) (got, want api.Errno) {
	thread, priority, mask := n.below(threads), n.below(priorities)*(api.MaxPriority/(priorities-1)), n.below(255)+1
	front, processor := n.below(2) == 0, n.below(api.MaxProcessors)
	known := m.find(thread) >= 0
	switch n.below(8) {
	case 0, 1:
		if !known {
			m.add(entry{thread, priority, mask}, front)
		}
		return q.Add(thread, priority, mask, front), errorIf(known, api.ErrExist)
	case 2:
		m.remove(thread)
		return q.Remove(thread), errorIf(!known, api.ErrNoEntry)
	case 3:
		if at := m.find(thread); known && (*m)[at].priority != priority {
			x, _ := m.remove(thread)
			m.add(entry{thread, priority, x.mask}, front)
		}
		return q.SetPriority(thread, priority, front), errorIf(!known, api.ErrNoEntry)
	case 4:
		if known {
			(*m)[m.find(thread)].mask = mask
		}
		return q.SetMask(thread, mask), errorIf(!known, api.ErrNoEntry)
	case 5, 6:
		x, found := m.remove(m.first(priority))
		if found {
			m.add(x, false)
		}
		return q.Rotate(priority), errorIf(!found, api.ErrNoEntry)
	}
	best := m.best(processor)
	m.remove(best)
	taken, e := q.Take(processor)
	if e == api.OK && taken != best {
		return e, api.ErrInvalid
	}
	return e, errorIf(best < 0, api.ErrNoEntry)
}

// P2.1 to P2.3: behind any calls the queue is what a plain list is.
func TestQueueIsItsModel(t *testing.T) {
	for i, x := range []struct{ threads, priorities int }{{3, 2}, {6, 2}, {12, 4}, {40, 6}, {256, 16}, {256, 256}, {20, 256}} {
		q, m, n := ready.New(), &model{}, numbers(i)
		for call := range 3000 {
			got, want := step(q, m, &n, x.threads, x.priorities)
			if got != want {
				t.Fatalf("%d threads, call %d: error %v; want %v", x.threads, call, got, want)
			}
			if s := stateOf(t, q); !s.equal(m.state()) {
				t.Fatalf("%d threads, call %d: the state %v; want %v", x.threads, call, s, m.state())
			}
		}
	}
}

// P2.4

func TestFirstInFirstOut(t *testing.T) {
	q, n := ready.New(), numbers(1)
	var added, taken []int
	for thread := range 50 {
		added = append(added, thread*5%251)
		q.Add(thread*5%251, 77, 1<<n.below(8)|1, false)
	}
	for range 50 {
		thread, _ := q.Take(0)
		taken = append(taken, thread)
	}
	if !slices.Equal(added, taken) {
		t.Errorf("added %v, taken %v", added, taken)
	}
}

// filled returns a queue with threads of few priorities, all with the mask 255.
func filled(t *testing.T, seed int) *ready.Queue {
	t.Helper()
	q, n := ready.New(), numbers(seed)
	for thread := range 60 {
		if e := q.Add(thread, n.below(8)*36, 255, n.below(2) == 0); e != api.OK {
			t.Fatal(e)
		}
	}
	return q
}

func TestTakingFollowsTheOrder(t *testing.T) {
	for seed := range 10 {
		q := filled(t, seed)
		order := q.Order()
		for i, want := range order {
			thread, e := q.Take(i % api.MaxProcessors)
			expectThread(t, thread, e, want)
		}
		thread, e := q.Take(0)
		expectNone(t, "Take", thread, e)
	}
}

// listOf returns the threads of one priority, in their order.
func listOf(q *ready.Queue, priority int) []int {
	var list []int
	for _, thread := range q.Order() {
		if p, _ := q.Priority(thread); p == priority {
			list = append(list, thread)
		}
	}
	return list
}

func TestRotatingAllTheWayRound(t *testing.T) {
	q := filled(t, 3)
	for priority := 0; priority <= api.MaxPriority; priority += 36 {
		before, list := stateOf(t, q), listOf(q, priority)
		for i := range list {
			expect(t, q, api.OK, func() api.Errno { return q.Rotate(priority) })
			if got, want := listOf(q, priority), slices.Concat(list[i+1:], list[:i+1]); !slices.Equal(got, want) {
				t.Fatalf("behind %d rotations: %v; want %v", i+1, got, want)
			}
		}
		if !stateOf(t, q).equal(before) {
			t.Errorf("priority %d: the rotations have changed the queue", priority)
		}
	}
}

func TestRemoveAndAddAtTheSameEnd(t *testing.T) {
	q := filled(t, 4)
	before := stateOf(t, q)
	for priority := 0; priority <= api.MaxPriority; priority += 36 {
		list := listOf(q, priority)
		if len(list) < 2 {
			t.Fatalf("priority %d has the threads %v only", priority, list)
		}
		for _, front := range []bool{false, true} {
			thread := list[len(list)-1]
			if front {
				thread = list[0]
			}
			expect(t, q, api.OK, func() api.Errno { return q.Remove(thread) })
			expect(t, q, api.OK, func() api.Errno { return q.Add(thread, priority, 255, front) })
			if !stateOf(t, q).equal(before) {
				t.Errorf("priority %d, front %v: the queue has changed", priority, front)
			}
		}
	}
}
