package ready_test

import (
	"math"
	"slices"
	"testing"

	"orpiment/api"
	"orpiment/ready"
)

var (
	wrongThreads    = []int{-1, api.MaxThreads, api.MaxThreads + 1, math.MaxInt, math.MinInt}
	wrongPriorities = []int{-1, api.MaxPriority + 1, 1000, math.MaxInt, math.MinInt}
	wrongMasks      = []int{0, -1, -255, 256, 257, 511, math.MaxInt, math.MinInt}
	wrongProcessors = []int{-1, api.MaxProcessors, 63, 64, math.MaxInt, math.MinInt}
)

// state is all that can be read of a queue.
type state struct {
	order         []int
	len, greatest int
	priorities    [api.MaxThreads]int // -1 for a thread that is not in the queue
	best          [api.MaxProcessors]int
}

func stateOf(t *testing.T, q *ready.Queue) state {
	t.Helper()
	s := state{order: q.Order(), len: q.Len(), greatest: q.Greatest()}
	for thread := range s.priorities {
		priority, e := q.Priority(thread)
		s.priorities[thread] = priority
		if e != api.OK {
			expectNone(t, "Priority", priority, e)
			s.priorities[thread] = -1
		}
	}
	for processor := range s.best {
		thread, e := q.Best(processor)
		s.best[processor] = thread
		if e != api.OK {
			expectNone(t, "Best", thread, e)
			s.best[processor] = -1
		}
	}
	return s
}

// expectNone checks the answer of a call with valid arguments that finds no thread.
func expectNone(t *testing.T, call string, n int, e api.Errno) {
	t.Helper()
	if n != 0 || e != api.ErrNoEntry {
		t.Errorf("%s = %d, %v; want 0, %v", call, n, e, api.ErrNoEntry)
	}
}

func (s state) equal(other state) bool {
	return slices.Equal(s.order, other.order) && s.len == other.len && s.greatest == other.greatest &&
		s.priorities == other.priorities && s.best == other.best
}

// expect checks the error of a call, and that a call with an error has changed nothing.
func expect(t *testing.T, q *ready.Queue, want api.Errno, call func() api.Errno) {
	t.Helper()
	before := stateOf(t, q)
	if e := call(); e != want {
		t.Errorf("error %v; want %v", e, want)
	}
	if want != api.OK && !stateOf(t, q).equal(before) {
		t.Errorf("a call with the error %v has changed the queue", want)
	}
}

func expectOrder(t *testing.T, q *ready.Queue, want ...int) {
	t.Helper()
	if got := q.Order(); !slices.Equal(got, want) {
		t.Errorf("Order = %v; want %v", got, want)
	}
	if q.Len() != len(want) {
		t.Errorf("Len = %d; want %d", q.Len(), len(want))
	}
}

func expectThread(t *testing.T, got int, e api.Errno, want int) {
	t.Helper()
	if got != want || e != api.OK {
		t.Errorf("thread %d, %v; want %d", got, e, want)
	}
}

type entry struct{ thread, priority, mask int }

// queueOf returns a queue with threads that were added at the back.
func queueOf(t *testing.T, entries ...entry) *ready.Queue {
	t.Helper()
	q := ready.New()
	for _, x := range entries {
		if e := q.Add(x.thread, x.priority, x.mask, false); e != api.OK {
			t.Fatalf("Add(%d, %d, %d): %v", x.thread, x.priority, x.mask, e)
		}
	}
	return q
}

// sample has three lists, one of them with a single thread.
func sample(t *testing.T) *ready.Queue {
	t.Helper()
	return queueOf(t, entry{1, 10, 255}, entry{2, 10, 1}, entry{3, 20, 2}, entry{4, 10, 6}, entry{5, 5, 128}, entry{6, 5, 129})
}

func TestNew(t *testing.T) {
	q := ready.New()
	if q == nil {
		t.Fatal("no queue")
	}
	expectOrder(t, q)
	if q.Greatest() != -1 {
		t.Errorf("Greatest = %d", q.Greatest())
	}
}

func TestQueuesAreIndependent(t *testing.T) {
	first, second := ready.New(), ready.New()
	first.Add(1, 10, 255, false)
	expectOrder(t, second)
	second.Add(2, 20, 255, false)
	expectOrder(t, first, 1)
}

// The chapter's examples.

func TestExamples(t *testing.T) {
	q := queueOf(t, entry{1, 10, 255}, entry{2, 10, 255}, entry{3, 20, 2})
	expectOrder(t, q, 3, 1, 2)
	thread, e := q.Best(0)
	expectThread(t, thread, e, 1)
	thread, e = q.Best(1)
	expectThread(t, thread, e, 3)
	expect(t, q, api.OK, func() api.Errno { return q.SetPriority(1, 10, true) })
	expectOrder(t, q, 3, 1, 2)
	expect(t, q, api.OK, func() api.Errno { return q.Rotate(10) })
	expectOrder(t, q, 3, 2, 1)
}

// P2.1

func TestAdd(t *testing.T) {
	q := ready.New()
	for _, x := range []struct {
		entry
		front bool
		want  []int
	}{
		{entry{7, 10, 1}, true, []int{7}},
		{entry{8, 10, 1}, false, []int{7, 8}},
		{entry{9, 10, 1}, true, []int{9, 7, 8}},
		{entry{0, 10, 1}, false, []int{9, 7, 8, 0}},
		{entry{255, 0, 255}, false, []int{9, 7, 8, 0, 255}},
		{entry{6, 255, 128}, true, []int{6, 9, 7, 8, 0, 255}},
		{entry{5, 11, 128}, false, []int{6, 5, 9, 7, 8, 0, 255}},
		{entry{4, 11, 1}, false, []int{6, 5, 4, 9, 7, 8, 0, 255}},
		{entry{3, 0, 1}, true, []int{6, 5, 4, 9, 7, 8, 0, 3, 255}},
	} {
		expect(t, q, api.OK, func() api.Errno { return q.Add(x.thread, x.priority, x.mask, x.front) })
		expectOrder(t, q, x.want...)
	}
}

// A full queue has each thread once, and takes none of them again.
func TestAddAllThreads(t *testing.T) {
	q := ready.New()
	var want []int
	for thread := range api.MaxThreads {
		if e := q.Add(thread, thread, thread%255+1, thread%2 == 0); e != api.OK {
			t.Fatalf("Add(%d): %v", thread, e)
		}
		want = append(want, api.MaxThreads-1-thread)
	}
	expectOrder(t, q, want...)
	expect(t, q, api.ErrExist, func() api.Errno { return q.Add(0, 0, 1, false) })
}

func TestAddErrors(t *testing.T) {
	q := sample(t)
	for _, thread := range wrongThreads {
		expect(t, q, api.ErrRange, func() api.Errno { return q.Add(thread, 10, 1, false) })
	}
	for _, thread := range []int{1, 100} { // in the queue, and not in it: the range is examined first
		for _, priority := range wrongPriorities {
			expect(t, q, api.ErrRange, func() api.Errno { return q.Add(thread, priority, 1, true) })
		}
		for _, mask := range wrongMasks {
			expect(t, q, api.ErrRange, func() api.Errno { return q.Add(thread, 10, mask, false) })
		}
	}
	for _, front := range []bool{false, true} {
		expect(t, q, api.ErrExist, func() api.Errno { return q.Add(1, 10, 255, front) })
		expect(t, q, api.ErrExist, func() api.Errno { return q.Add(1, 200, 7, front) })
	}
}

func TestRemove(t *testing.T) {
	q := sample(t)
	for _, x := range []struct {
		thread int
		want   []int
	}{
		{2, []int{3, 1, 4, 5, 6}}, // in the middle of its list
		{1, []int{3, 4, 5, 6}},    // at the front
		{6, []int{3, 4, 5}},       // at the back
		{3, []int{4, 5}},          // the whole list
		{4, []int{5}},
		{5, nil},
	} {
		expect(t, q, api.OK, func() api.Errno { return q.Remove(x.thread) })
		expectOrder(t, q, x.want...)
		expect(t, q, api.ErrNoEntry, func() api.Errno { return q.Remove(x.thread) })
	}
}

func TestRemoveErrors(t *testing.T) {
	for _, q := range []*ready.Queue{ready.New(), sample(t)} {
		for _, thread := range wrongThreads {
			expect(t, q, api.ErrRange, func() api.Errno { return q.Remove(thread) })
		}
		for _, thread := range []int{0, 7, api.MaxThreads - 1} {
			expect(t, q, api.ErrNoEntry, func() api.Errno { return q.Remove(thread) })
		}
	}
}

// Of a thread that was removed nothing remains: it is added as a new one.
func TestAddAgain(t *testing.T) {
	q := sample(t)
	expect(t, q, api.OK, func() api.Errno { return q.Remove(3) })
	expect(t, q, api.OK, func() api.Errno { return q.Add(3, 5, 1, false) })
	expectOrder(t, q, 1, 2, 4, 5, 6, 3)
	if priority, e := q.Priority(3); priority != 5 || e != api.OK {
		t.Errorf("Priority(3) = %d, %v", priority, e)
	}
}

// P2.2

func TestSetPriority(t *testing.T) {
	for _, x := range []struct {
		thread, priority int
		front            bool
		want             []int
	}{
		{2, 20, false, []int{3, 2, 1, 4, 5, 6}},
		{2, 20, true, []int{2, 3, 1, 4, 5, 6}},
		{1, 5, false, []int{3, 2, 4, 5, 6, 1}},
		{1, 5, true, []int{3, 2, 4, 1, 5, 6}},
		{4, 255, false, []int{4, 3, 1, 2, 5, 6}},
		{4, 0, true, []int{3, 1, 2, 5, 6, 4}},
		{3, 10, false, []int{1, 2, 4, 3, 5, 6}}, // its list becomes empty
		{3, 10, true, []int{3, 1, 2, 4, 5, 6}},
		{3, 19, false, []int{3, 1, 2, 4, 5, 6}},
		{3, 7, true, []int{1, 2, 4, 3, 5, 6}},
	} {
		q := sample(t)
		expect(t, q, api.OK, func() api.Errno { return q.SetPriority(x.thread, x.priority, x.front) })
		expectOrder(t, q, x.want...)
		if priority, e := q.Priority(x.thread); priority != x.priority || e != api.OK {
			t.Errorf("Priority(%d) = %d, %v; want %d", x.thread, priority, e, x.priority)
		}
	}
}

func TestSetPriorityToTheSame(t *testing.T) {
	q := sample(t)
	before := stateOf(t, q)
	for _, thread := range q.Order() {
		priority, _ := q.Priority(thread)
		for _, front := range []bool{false, true} {
			expect(t, q, api.OK, func() api.Errno { return q.SetPriority(thread, priority, front) })
			if !stateOf(t, q).equal(before) {
				t.Fatalf("SetPriority(%d, %d, %v) has changed the queue: %v", thread, priority, front, q.Order())
			}
		}
	}
}

// A thread keeps its mask when its priority changes.
func TestSetPriorityKeepsMask(t *testing.T) {
	q := sample(t)
	q.SetPriority(5, 100, false)
	thread, e := q.Best(7)
	expectThread(t, thread, e, 5)
	thread, e = q.Best(1)
	expectThread(t, thread, e, 3)
}

func TestSetPriorityErrors(t *testing.T) {
	for _, q := range []*ready.Queue{ready.New(), sample(t)} {
		for _, front := range []bool{false, true} {
			for _, thread := range wrongThreads {
				expect(t, q, api.ErrRange, func() api.Errno { return q.SetPriority(thread, 10, front) })
			}
			for _, priority := range wrongPriorities {
				expect(t, q, api.ErrRange, func() api.Errno { return q.SetPriority(1, priority, front) })
				expect(t, q, api.ErrRange, func() api.Errno { return q.SetPriority(99, priority, front) })
			}
			expect(t, q, api.ErrNoEntry, func() api.Errno { return q.SetPriority(99, 10, front) })
			expect(t, q, api.ErrNoEntry, func() api.Errno { return q.SetPriority(0, 0, front) })
		}
	}
}

func TestSetMask(t *testing.T) {
	q := sample(t)
	for _, mask := range []int{1, 2, 128, 255, 85} {
		expect(t, q, api.OK, func() api.Errno { return q.SetMask(3, mask) })
		expectOrder(t, q, 3, 1, 2, 4, 5, 6)
		for processor := range api.MaxProcessors {
			want := 1
			if mask&(1<<processor) != 0 {
				want = 3
			}
			thread, e := q.Best(processor)
			expectThread(t, thread, e, want)
		}
	}
}

func TestSetMaskErrors(t *testing.T) {
	for _, q := range []*ready.Queue{ready.New(), sample(t)} {
		for _, thread := range wrongThreads {
			expect(t, q, api.ErrRange, func() api.Errno { return q.SetMask(thread, 1) })
		}
		for _, mask := range wrongMasks {
			expect(t, q, api.ErrRange, func() api.Errno { return q.SetMask(1, mask) })
			expect(t, q, api.ErrRange, func() api.Errno { return q.SetMask(99, mask) })
		}
		expect(t, q, api.ErrNoEntry, func() api.Errno { return q.SetMask(99, 1) })
	}
}

func TestRotate(t *testing.T) {
	for _, x := range []struct {
		priority int
		want     []int
	}{
		{10, []int{3, 2, 4, 1, 5, 6}},
		{5, []int{3, 1, 2, 4, 6, 5}},
		{20, []int{3, 1, 2, 4, 5, 6}}, // one thread is its own successor
	} {
		q := sample(t)
		expect(t, q, api.OK, func() api.Errno { return q.Rotate(x.priority) })
		expectOrder(t, q, x.want...)
	}
}

// What was first is the back behind a rotation, so that further threads are added behind it.
func TestAddBehindRotate(t *testing.T) {
	q := sample(t)
	q.Rotate(10)
	q.Add(7, 10, 255, false)
	q.Add(8, 10, 255, true)
	expectOrder(t, q, 3, 8, 2, 4, 1, 7, 5, 6)
}

func TestRotateErrors(t *testing.T) {
	for _, q := range []*ready.Queue{ready.New(), sample(t)} {
		for _, priority := range wrongPriorities {
			expect(t, q, api.ErrRange, func() api.Errno { return q.Rotate(priority) })
		}
		for _, priority := range []int{0, 9, 11, 63, 64, 84, api.MaxPriority} {
			expect(t, q, api.ErrNoEntry, func() api.Errno { return q.Rotate(priority) })
		}
	}
	q := sample(t)
	q.Remove(3)
	expect(t, q, api.ErrNoEntry, func() api.Errno { return q.Rotate(20) })
}

// P2.3

func TestBest(t *testing.T) {
	q := sample(t)
	before := stateOf(t, q)
	for processor, want := range []int{1, 3, 1, 1, 1, 1, 1, 1} {
		thread, e := q.Best(processor)
		expectThread(t, thread, e, want)
	}
	if !stateOf(t, q).equal(before) {
		t.Error("Best has changed the queue")
	}
	q.Remove(1)
	for processor, want := range []int{2, 3, 4, -1, -1, -1, -1, 5} {
		thread, e := q.Best(processor)
		if want < 0 {
			expectNone(t, "Best", thread, e)
		} else {
			expectThread(t, thread, e, want)
		}
	}
}

// Bit p of a mask, and no other one, stands for processor p.
func TestBestForEachMask(t *testing.T) {
	q := queueOf(t, entry{0, 3, 1})
	for mask := 1; mask <= 255; mask++ {
		expect(t, q, api.OK, func() api.Errno { return q.SetMask(0, mask) })
		for processor := range api.MaxProcessors {
			thread, e := q.Best(processor)
			if mask>>processor%2 == 0 {
				expectNone(t, "Best", thread, e)
			} else {
				expectThread(t, thread, e, 0)
			}
		}
	}
}

func TestTake(t *testing.T) {
	q := sample(t)
	for _, x := range []struct{ processor, thread int }{{7, 1}, {2, 4}, {1, 3}, {7, 5}, {0, 2}, {0, 6}} {
		thread, e := q.Take(x.processor)
		expectThread(t, thread, e, x.thread)
		if _, e := q.Priority(x.thread); e != api.ErrNoEntry {
			t.Errorf("thread %d is in the queue behind Take: %v", x.thread, e)
		}
	}
	expectOrder(t, q)
}

func TestTakeKeepsTheOthers(t *testing.T) {
	q := sample(t)
	thread, e := q.Take(2)
	expectThread(t, thread, e, 1)
	expectOrder(t, q, 3, 2, 4, 5, 6)
	thread, e = q.Take(2)
	expectThread(t, thread, e, 4)
	expectOrder(t, q, 3, 2, 5, 6)
	expect(t, q, api.ErrNoEntry, func() api.Errno { _, e := q.Take(2); return e })
}

func TestBestAndTakeErrors(t *testing.T) {
	for _, q := range []*ready.Queue{ready.New(), queueOf(t, entry{9, 3, 16})} {
		for processor := range api.MaxProcessors {
			if processor == 4 && q.Len() > 0 {
				continue
			}
			thread, e := q.Best(processor)
			expectNone(t, "Best", thread, e)
			thread, e = q.Take(processor)
			expectNone(t, "Take", thread, e)
		}
		for _, processor := range wrongProcessors {
			for _, call := range []func(int) (int, api.Errno){q.Best, q.Take} {
				expect(t, q, api.ErrRange, func() api.Errno {
					thread, e := call(processor)
					if thread != 0 {
						t.Errorf("thread %d with an error", thread)
					}
					return e
				})
			}
		}
	}
}

func TestPriority(t *testing.T) {
	q := sample(t)
	for thread, want := range map[int]int{1: 10, 2: 10, 3: 20, 4: 10, 5: 5, 6: 5} {
		if priority, e := q.Priority(thread); priority != want || e != api.OK {
			t.Errorf("Priority(%d) = %d, %v; want %d", thread, priority, e, want)
		}
	}
	for _, thread := range wrongThreads {
		if priority, e := q.Priority(thread); priority != 0 || e != api.ErrRange {
			t.Errorf("Priority(%d) = %d, %v", thread, priority, e)
		}
	}
	q.Remove(3)
	for _, thread := range []int{0, 3, 7, api.MaxThreads - 1} {
		priority, e := q.Priority(thread)
		expectNone(t, "Priority", priority, e)
	}
}

// Each priority is found when it is the greatest one.
func TestGreatest(t *testing.T) {
	q := ready.New()
	for priority := range api.MaxPriority + 1 {
		q.Add(priority, priority, 1, false)
		if got := q.Greatest(); got != priority {
			t.Errorf("Greatest = %d; want %d", got, priority)
		}
	}
	for priority := api.MaxPriority; priority >= 0; priority-- {
		if got := q.Greatest(); got != priority {
			t.Errorf("Greatest = %d; want %d", got, priority)
		}
		q.Remove(priority)
	}
	if got := q.Greatest(); got != -1 {
		t.Errorf("Greatest of an empty queue = %d", got)
	}
}

// The greatest priority does not depend on masks, and stays as long as one thread has it.
func TestGreatestOfSeveral(t *testing.T) {
	q := queueOf(t, entry{1, 200, 1}, entry{2, 200, 128}, entry{3, 0, 1})
	for _, x := range []struct{ remove, want int }{{1, 200}, {2, 0}, {3, -1}} {
		q.Remove(x.remove)
		if got := q.Greatest(); got != x.want {
			t.Errorf("Greatest behind Remove(%d) = %d; want %d", x.remove, got, x.want)
		}
	}
}

func TestOrderIsNewMemory(t *testing.T) {
	q := sample(t)
	first, second := q.Order(), q.Order()
	first[0] = 99
	first = append(first, 98)
	if !slices.Equal(second, []int{3, 1, 2, 4, 5, 6}) {
		t.Errorf("the second result is %v", second)
	}
	expectOrder(t, q, 3, 1, 2, 4, 5, 6)
	q.Rotate(10)
	q.Remove(3)
	if !slices.Equal(second, []int{3, 1, 2, 4, 5, 6}) {
		t.Errorf("the result has changed with the queue: %v", second)
	}
}

// Types and functions: a nil queue.

func TestNilQueue(t *testing.T) {
	var q *ready.Queue
	for _, n := range []int{-1, 0, 1, 300} {
		for i, e := range []api.Errno{q.Add(n, n, n, false), q.Remove(n), q.SetPriority(n, n, true), q.SetMask(n, n), q.Rotate(n)} {
			if e != api.ErrState {
				t.Errorf("call %d with %d: %v", i, n, e)
			}
		}
		for i, call := range []func(int) (int, api.Errno){q.Best, q.Take, q.Priority} {
			if got, e := call(n); got != 0 || e != api.ErrState {
				t.Errorf("call %d with %d = %d, %v", i, n, got, e)
			}
		}
	}
	if q.Greatest() != -1 || q.Len() != 0 || len(q.Order()) != 0 {
		t.Errorf("Greatest %d, Len %d, Order %v", q.Greatest(), q.Len(), q.Order())
	}
}
