package sched_test

import (
	"math"
	"slices"
	"testing"

	"orpiment/api"
	"orpiment/partition"
	"orpiment/sched"
)

// The ranking.

// The queue has an order among all threads, which counts as soon as two of them have the same current priority.
func TestQueueAcrossPriorities(t *testing.T) {
	s := made(t, config(1))
	start(t, s, 1, 20, served(1, 50, 10))
	start(t, s, 2, 10, fifo())
	start(t, s, 3, 20, served(1, 50, 10))
	charge(t, s, 0, 1)
	charge(t, s, 1, 3)
	expectRanking(t, s, 2, 1, 2, 3)
}

func TestRankingByPriority(t *testing.T) {
	s := made(t, config(1))
	for thread, priority := range []int{10, 255, 0, 10, 200, 10} {
		start(t, s, thread, priority, fifo())
	}
	expectRanking(t, s, 0, 1, 4, 0, 3, 5, 2)
}

func TestRankingByEligibility(t *testing.T) {
	// The budgets of the partitions are 50, 50 and 0; the critical ones are 0, 2 and 2.
	s := made(t, config(1, part(50, 0), part(50, 2), part(0, 2)))
	start(t, s, 1, 5, in(0, fifo()))
	start(t, s, 2, 20, in(2, fifo()))
	start(t, s, 3, 10, criticalIn(2, fifo()))
	expectRanking(t, s, 0, 3, 1, 2)
	charge(t, s, 0, 3)
	expectRanking(t, s, 1, 3, 1, 2)
	charge(t, s, 1, 3)
	// Now the partition is bankrupt, until the first charge is out of the window.
	expectRanking(t, s, 2, 1, 2, 3)
	expectRanking(t, s, 99, 1, 2, 3)
	expectRanking(t, s, 100, 3, 1, 2)
}

// A partition with budget is not asked whether it is bankrupt.
func TestBankruptPartitionWithBudget(t *testing.T) {
	s := made(t, config(1, part(50, 0), part(50, 0)))
	start(t, s, 1, 10, criticalIn(0, fifo()))
	start(t, s, 2, 5, criticalIn(1, fifo()))
	expectRanking(t, s, 0, 1, 2)
	for now := range int64(50) {
		charge(t, s, now, 1)
	}
	expectRanking(t, s, 50, 2, 1)
}

func TestRankingByUsage(t *testing.T) {
	// The budgets are 75, 25 and 0.
	s := made(t, config(1, part(75, 0), part(25, 0), part(0, 50)))
	start(t, s, 1, 10, in(0, fifo()))
	start(t, s, 2, 10, in(1, fifo()))
	start(t, s, 3, 10, criticalIn(2, fifo()))
	start(t, s, 4, 10, in(1, fifo()))
	start(t, s, 5, 10, in(0, fifo()))
	expectRanking(t, s, 0, 1, 2, 4, 5, 3)
	charge(t, s, 0, 2)
	expectRanking(t, s, 1, 1, 5, 2, 4, 3)
	charge(t, s, 1, 1)
	charge(t, s, 2, 1)
	expectRanking(t, s, 3, 1, 5, 2, 4, 3)
	charge(t, s, 3, 1)
	expectRanking(t, s, 4, 1, 2, 4, 5, 3)
	charge(t, s, 4, 5)
	expectRanking(t, s, 5, 2, 4, 1, 5, 3)
	// The usage counts among equal priorities only.
	expectError(t, "SetPriority", s.SetPriority(5, 11), api.OK)
	expectRanking(t, s, 5, 5, 2, 4, 1, 3)
}

// The time of a Sporadic thread that ran without budget is not taken from its server.
func TestRankingByCurrentPriority(t *testing.T) {
	s := made(t, config(1))
	start(t, s, 1, 20, served(2, 5, 3))
	start(t, s, 2, 10, fifo())
	expectRan(t, s, 0, 1, 1, 2, 2, 2, 2, 2, 1, 1, 2)
	expectError(t, "Block", s.Block(2), api.OK)
	expectRan(t, s, 10, 1, 1, 1)
	expectError(t, "Ready", s.Ready(2), api.OK)
	expectRan(t, s, 13, 2, 1, 1, 2)
}

func TestRankingErrors(t *testing.T) {
	s := made(t, config(1))
	start(t, s, 1, 10, fifo())
	expectRanking(t, s, 7, 1)
	for _, now := range wrongTimes {
		if l, e := s.Ranking(now); len(l) != 0 || e != api.ErrRange {
			t.Errorf("Ranking(%d) = %v, %v", now, l, e)
		}
	}
	for _, now := range []int64{0, 6} {
		if l, e := s.Ranking(now); len(l) != 0 || e != api.ErrOrder {
			t.Errorf("Ranking(%d) = %v, %v", now, l, e)
		}
	}
	expectRanking(t, s, 7, 1)
	expectRanking(t, s, api.MaxTime, 1)
}

func TestRankingIsNewMemory(t *testing.T) {
	s := made(t, config(1))
	start(t, s, 1, 10, fifo())
	start(t, s, 2, 10, fifo())
	l, _ := s.Ranking(0)
	l[0], l[1] = 9, 9
	expectRanking(t, s, 0, 1, 2)
}

// P6.3

func TestPickUsesTheLastProcessor(t *testing.T) {
	s := made(t, config(3))
	start(t, s, 1, 30, fifo())
	start(t, s, 2, 20, fifo())
	start(t, s, 3, 10, fifo())
	expectPick(t, s, 0, free(3), 1, 2, 3)
	charge(t, s, 0, 3, 1, 2)
	expectPick(t, s, 1, free(3), 3, 1, 2)
	// A thread whose last processor is taken gets the least one that is free.
	charge(t, s, 1, 3, 1, idle)
	charge(t, s, 2, idle, 2, idle)
	expectPick(t, s, 3, free(3), 2, 1, 3)
	expectError(t, "SetPriority", s.SetPriority(2, 40), api.OK)
	expectPick(t, s, 3, free(3), 1, 2, 3)
	// The mask forbids the last processor.
	expectError(t, "SetParams", s.SetParams(2, on(1|4, fifo())), api.OK)
	expectPick(t, s, 3, free(3), 2, 1, 3)
	expectError(t, "SetParams", s.SetParams(2, on(8, fifo())), api.OK)
	expectPick(t, s, 3, free(3), 3, 1, idle)
}

func TestPickLeavesProcessorsIdle(t *testing.T) {
	s := made(t, config(4))
	start(t, s, 1, 10, on(4, fifo()))
	start(t, s, 2, 10, on(4|2, fifo()))
	start(t, s, 3, 10, on(2, fifo()))
	add(t, s, 4, 10, fifo())
	expectPick(t, s, 0, free(4), idle, 2, 1, idle)
}

func TestPickKeepsHeldThreads(t *testing.T) {
	s := made(t, config(2, part(100, 0), part(0, 0)))
	start(t, s, 1, 30, fifo())
	start(t, s, 2, 20, fifo())
	start(t, s, 3, 10, in(1, fifo()))
	charge(t, s, 0, 1, 2)
	expectPick(t, s, 1, free(2), 1, 2)
	expectPick(t, s, 1, []int{3, idle}, 3, 1)
	expectPick(t, s, 1, []int{idle, 3}, 1, 3)
	expectPick(t, s, 1, []int{idle, 1}, 2, 1)
	expectPick(t, s, 1, []int{3, 2}, 3, 2)
}

func TestPickChangesNothing(t *testing.T) {
	s := made(t, config(2))
	start(t, s, 1, 10, roundRobin(2))
	start(t, s, 2, 10, served(2, 5, 3))
	start(t, s, 3, 10, fifo())
	before := s.State()
	held := []int{idle, 3}
	for range 3 {
		expectPick(t, s, 4, held, 1, 3)
		got, _ := s.Pick(4, held)
		got[0], got[1] = 7, 7
		expectState(t, s, before...)
		expectRanking(t, s, 4, 1, 2, 3)
	}
	if !slices.Equal(held, []int{idle, 3}) {
		t.Errorf("the held threads are %v", held)
	}
	// The time that Pick used may be charged.
	charge(t, s, 4, 1, 2)
}

func TestPickErrors(t *testing.T) {
	s := made(t, config(2))
	start(t, s, 1, 10, fifo())
	start(t, s, 2, 10, on(2, fifo()))
	add(t, s, 3, 10, fifo())
	wrong := [][]int{nil, {}, {idle}, {idle, idle, idle}, {3, idle}, {idle, 3}, {4, idle}, {0, idle}, {-2, idle}, {1, 1}, {1, 256},
		{math.MaxInt, idle}, {math.MinInt, idle}, {2, idle}, {2, 1}}
	for _, held := range wrong {
		expectPickError(t, s, 5, held, api.ErrInvalid)
	}
	for _, now := range wrongTimes {
		expectPickError(t, s, now, free(2), api.ErrRange)
		expectPickError(t, s, now, nil, api.ErrRange)
	}
	// The calls that failed used no time.
	expectPick(t, s, 3, free(2), 1, 2)
	expectPick(t, s, 3, []int{1, 2}, 1, 2)
	for _, now := range []int64{0, 2} {
		expectPickError(t, s, now, free(2), api.ErrOrder)
		for _, held := range wrong {
			expectPickError(t, s, now, held, api.ErrInvalid)
		}
	}
	expectPick(t, s, 3, free(2), 1, 2)
	expectPick(t, s, api.MaxTime, free(2), 1, 2)
	expectPickError(t, s, api.MaxTime-1, free(2), api.ErrOrder)
}

// Each call that tells a time uses it.
func TestTimesThatWereUsed(t *testing.T) {
	for name, use := range map[string]func(s *scheduler){
		"Pick":    func(s *scheduler) { expectPick(t, s, 5, free(1), 1) },
		"Charge":  func(s *scheduler) { charge(t, s, 5, 1) },
		"Ranking": func(s *scheduler) { expectRanking(t, s, 5, 1) },
	} {
		s := made(t, config(1))
		start(t, s, 1, 10, fifo())
		use(s)
		expectPickError(t, s, 4, free(1), api.ErrOrder)
		expectError(t, "Charge behind "+name, s.Charge(4, free(1)), api.ErrOrder)
		if l, e := s.Ranking(4); len(l) != 0 || e != api.ErrOrder {
			t.Errorf("Ranking(4) behind %s = %v, %v", name, l, e)
		}
		expectPick(t, s, 5, free(1), 1)
		expectRanking(t, s, 5, 1)
		charge(t, s, 6, 1)
	}
}

// P6.4

func TestChargeSetsTheLastProcessor(t *testing.T) {
	s := made(t, config(3))
	start(t, s, 1, 10, on(1, fifo()))
	start(t, s, 2, 10, fifo())
	charge(t, s, 0, idle, 2, 1)
	expectState(t, s,
		state{Number: 1, Priority: 10, Ready: true, Last: 2, Params: on(1, fifo())},
		state{Number: 2, Priority: 10, Ready: true, Last: 1, Params: fifo()})
	expectPick(t, s, 1, free(3), 1, 2, idle)
	charge(t, s, 1, 2, idle, idle)
	if a, b := stateOf(t, s, 1).Last, stateOf(t, s, 2).Last; a != 2 || b != 0 {
		t.Errorf("the last processors are %d and %d", a, b)
	}
}

// Each processor charges the partition of its own thread.
func TestChargeOfSeveralProcessors(t *testing.T) {
	c := config(2, part(50, 0), part(50, 0))
	c.Window = 3 // the budgets are 3
	s := made(t, c)
	start(t, s, 1, 20, in(0, fifo()))
	start(t, s, 2, 20, in(0, fifo()))
	start(t, s, 3, 10, in(1, fifo()))
	expectPick(t, s, 0, free(2), 1, 2)
	charge(t, s, 0, 1, 2)
	expectRanking(t, s, 1, 1, 2, 3)
	charge(t, s, 1, 1, 3)
	expectRanking(t, s, 2, 3, 1, 2)
	charge(t, s, 2, idle, idle)
	expectRanking(t, s, 3, 1, 2, 3)
}

// Time is critical only if the thread is, and only while the partition has no budget.
func TestChargeOfCriticalTime(t *testing.T) {
	c := config(1, part(60, 0), part(40, 20))
	c.Window = 5 // the budgets are 3 and 2, the critical one of partition 1 is 1
	for _, x := range []struct {
		before   []int // the threads that run from tick 0 on
		eligible bool  // whether the critical thread is then
	}{
		{nil, true},
		{[]int{1}, true},
		{[]int{1, 1}, true},
		{[]int{1, 1, 1}, false},
		{[]int{2, 2, 1}, false},
		{[]int{2, 2, 2}, true},
		{[]int{1, 1, 2}, true},
		{[]int{1, 1, 2, 2}, true},
		{[]int{1, 1, 2, 1}, false},
	} {
		s := made(t, c)
		start(t, s, 1, 30, criticalIn(1, fifo()))
		start(t, s, 2, 20, in(1, fifo()))
		start(t, s, 3, 10, in(0, fifo()))
		for now, thread := range x.before {
			charge(t, s, int64(now), thread)
		}
		got, e := s.Ranking(int64(len(x.before)))
		if e != api.OK || (got[0] == 1) != x.eligible {
			t.Errorf("behind %v the ranking is %v, %v", x.before, got, e)
		}
	}
}

// The time of a bankrupt partition's critical thread is critical time too.
func TestChargeOfABankruptPartition(t *testing.T) {
	c := config(1, part(100, 0), part(0, 20))
	c.Window = 10 // the critical budget of partition 1 is 2
	s := made(t, c)
	start(t, s, 1, 20, criticalIn(1, fifo()))
	start(t, s, 2, 10, in(0, fifo()))
	for now := range int64(4) {
		charge(t, s, now, 1)
	}
	expectRanking(t, s, 4, 2, 1)
	expectRanking(t, s, 11, 2, 1)
	expectRanking(t, s, 12, 1, 2)
}

func TestChargeOfSlices(t *testing.T) {
	s := made(t, config(2))
	start(t, s, 1, 10, roundRobin(1))
	start(t, s, 2, 10, roundRobin(2))
	start(t, s, 3, 10, roundRobin(3))
	left := func(want ...int) {
		t.Helper()
		for i, n := range want {
			if got := stateOf(t, s, i+1).Left; got != n {
				t.Errorf("thread %d has %d left; want %d", i+1, got, n)
			}
		}
	}
	left(1, 2, 3)
	charge(t, s, 0, 1, 2)
	left(1, 1, 3)
	expectRanking(t, s, 1, 2, 3, 1)
	charge(t, s, 1, 3, 2)
	left(1, 2, 2)
	expectRanking(t, s, 2, 3, 1, 2)
	// Of slices that end together that of the lesser processor ends first.
	charge(t, s, 2, 2, 1)
	charge(t, s, 3, 2, 3)
	left(1, 2, 1)
	expectRanking(t, s, 4, 3, 1, 2)
	charge(t, s, 4, 1, 3)
	left(1, 2, 3)
	expectRanking(t, s, 5, 2, 1, 3)
	charge(t, s, 5, idle, idle)
	left(1, 2, 3)
}

// A slice that ends behind another priority moves the thread behind those of its own.
func TestSliceEndsAtAnotherPriority(t *testing.T) {
	s := made(t, config(1))
	start(t, s, 1, 10, roundRobin(2))
	start(t, s, 2, 20, roundRobin(2))
	charge(t, s, 0, 1)
	expectError(t, "SetPriority", s.SetPriority(2, 10), api.OK)
	expectError(t, "SetPriority", s.SetPriority(1, 20), api.OK)
	expectError(t, "SetPriority", s.SetPriority(1, 10), api.OK)
	expectRanking(t, s, 1, 2, 1)
	charge(t, s, 1, 1)
	expectRanking(t, s, 2, 2, 1)
	charge(t, s, 2, 2)
	charge(t, s, 3, 2)
	expectRanking(t, s, 4, 1, 2)
}

// A server is charged at the times that were not picked too, and only while it has budget.
func TestChargeOfServers(t *testing.T) {
	s := made(t, config(2))
	start(t, s, 1, 30, served(3, 6, 5))
	start(t, s, 2, 30, served(2, 6, 5))
	start(t, s, 3, 10, fifo())
	charge(t, s, 0, 1, 2)
	expectRanking(t, s, 1, 1, 2, 3)
	charge(t, s, 1, 2, 1)
	expectRanking(t, s, 2, 1, 3, 2)
	charge(t, s, 2, 1, 2)
	expectRanking(t, s, 3, 3, 1, 2)
	charge(t, s, 3, 1, 2)
	expectRanking(t, s, 7, 3, 1, 2)
	// The two ticks of thread 2 come back at 8, and the three of thread 1 at 9: the later ones were none of their servers.
	expectRanking(t, s, 8, 2, 3, 1)
	expectRanking(t, s, 9, 1, 2, 3)
	charge(t, s, 9, 1, 2)
	charge(t, s, 10, 1, 2)
	expectRanking(t, s, 11, 1, 3, 2)
	charge(t, s, 11, 1, 2)
	expectRanking(t, s, 12, 3, 1, 2)
}

func TestChargeErrors(t *testing.T) {
	s := made(t, config(2))
	start(t, s, 1, 10, roundRobin(3))
	start(t, s, 2, 10, on(2, fifo()))
	add(t, s, 3, 10, fifo())
	before := s.State()
	wrong := [][]int{nil, {}, {idle}, {idle, idle, idle}, {1, 3}, {1, 4}, {1, 0}, {1, -2}, {1, 1}, {1, 256}, {math.MaxInt, 1}, {math.MinInt, 1}}
	for _, running := range wrong {
		expectError(t, "Charge of a wrong list", s.Charge(5, running), api.ErrInvalid)
	}
	for _, now := range wrongTimes {
		expectError(t, "Charge at a wrong time", s.Charge(now, []int{1, 2}), api.ErrRange)
		expectError(t, "Charge of a wrong list at a wrong time", s.Charge(now, nil), api.ErrRange)
	}
	expectState(t, s, before...)
	charge(t, s, 3, 1, 2)
	before = s.State()
	expectPick(t, s, 4, free(2), 1, 2)
	for _, now := range []int64{0, 2, 3} {
		expectError(t, "Charge out of order", s.Charge(now, []int{1, 2}), api.ErrOrder)
		for _, running := range wrong {
			expectError(t, "Charge of a wrong list out of order", s.Charge(now, running), api.ErrInvalid)
		}
	}
	expectState(t, s, before...)
	charge(t, s, 4, 1, 2)
	expectError(t, "Charge of the same tick", s.Charge(4, free(2)), api.ErrOrder)
	// A tick that was charged may be asked for.
	expectPick(t, s, 4, free(2), 1, 2)
	charge(t, s, api.MaxTime, 1, 2)
	expectError(t, "Charge of the last tick", s.Charge(api.MaxTime, []int{1, 2}), api.ErrOrder)
}

// The list that is charged is not changed, and threads need no processor of their mask in it.
func TestChargeKeepsItsArgument(t *testing.T) {
	s := made(t, config(2))
	start(t, s, 1, 10, on(2, roundRobin(1)))
	running := []int{1, idle}
	charge(t, s, 0, running...)
	if !slices.Equal(running, []int{1, idle}) {
		t.Errorf("the running threads are %v", running)
	}
	if last := stateOf(t, s, 1).Last; last != 0 {
		t.Errorf("the last processor is %d", last)
	}
}

// P6.5

func expectAssign(t *testing.T, c partition.Config, l []sched.Ranked, held []int, want ...int) {
	t.Helper()
	if got, e := sched.Assign(c, l, held); !slices.Equal(got, want) || e != api.OK {
		t.Errorf("Assign(%v, %v) = %v, %v; want %v", l, held, got, e, want)
	}
}

func expectAssignError(t *testing.T, c partition.Config, l []sched.Ranked, held []int, want api.Errno) {
	t.Helper()
	if got, e := sched.Assign(c, l, held); len(got) != 0 || e != want {
		t.Errorf("Assign(%v, %v) = %v, %v; want %v", l, held, got, e, want)
	}
}

func TestAssign(t *testing.T) {
	c := config(3)
	expectAssign(t, c, nil, free(3), idle, idle, idle)
	l := []sched.Ranked{ranked(255, -1, all), ranked(0, 0, all), ranked(7, 1, 2), ranked(8, 2, 8), ranked(9, 0, 1|2|4), ranked(10, -1, all)}
	expectAssign(t, c, l, free(3), 255, 0, 9)
	expectAssign(t, c, l, []int{idle, 0, idle}, 255, 0, 9)
	expectAssign(t, c, l, []int{9, 7, 10}, 9, 7, 10)
	expectAssign(t, c, l[2:], free(3), 9, 7, 10)
	expectAssign(t, c, l[3:4], free(3), idle, idle, idle)
	// The last processor precedes one that is free too.
	expectAssign(t, c, []sched.Ranked{ranked(1, 2, all), ranked(2, 2, all), ranked(3, 2, all)}, free(3), 2, 3, 1)
}

func TestAssignOfManyThreads(t *testing.T) {
	c := config(8)
	var l []sched.Ranked
	for i := range api.MaxThreads {
		l = append(l, ranked(255-i, i%8, 1<<(7-i/8%8)))
	}
	expectAssign(t, c, l, free(8), 199, 207, 215, 223, 231, 239, 247, 255)
	expectAssignError(t, c, append(l, l[0]), free(8), api.ErrLimit)
	expectAssignError(t, c, append(l, ranked(-1, 0, 1)), free(8), api.ErrLimit)
}

func TestAssignErrors(t *testing.T) {
	c := config(3)
	good := ranked(1, -1, all)
	var outOfRange []sched.Ranked
	for _, number := range wrongThreads {
		outOfRange = append(outOfRange, ranked(number, 0, 1))
	}
	for _, mask := range wrongMasks {
		outOfRange = append(outOfRange, ranked(2, 0, mask))
	}
	for _, last := range []int{-2, 3, 7, 8, math.MaxInt, math.MinInt} {
		outOfRange = append(outOfRange, ranked(2, last, 1))
	}
	for _, r := range outOfRange {
		expectAssignError(t, c, []sched.Ranked{r}, free(3), api.ErrRange)
		expectAssignError(t, c, []sched.Ranked{good, r}, nil, api.ErrRange)
		// The element that is twice comes first.
		expectAssignError(t, c, []sched.Ranked{good, good, r}, nil, api.ErrTwice)
		expectAssignError(t, c, []sched.Ranked{good, r, good}, nil, api.ErrRange)
	}
	expectAssignError(t, c, []sched.Ranked{good, ranked(1, 3, 1)}, nil, api.ErrRange)
	expectAssignError(t, c, []sched.Ranked{good, ranked(2, 0, 1), ranked(1, 2, 4)}, nil, api.ErrTwice)
	l := []sched.Ranked{good, ranked(2, 2, 2)}
	for _, held := range [][]int{nil, {}, free(2), free(4), {0, idle, idle}, {3, idle, idle}, {-2, idle, idle}, {256, idle, idle},
		{math.MaxInt, idle, idle}, {math.MinInt, idle, idle}, {1, idle, 1}, {2, idle, idle}, {idle, idle, 2}} {
		expectAssignError(t, c, l, held, api.ErrInvalid)
	}
	expectAssign(t, c, l, []int{idle, 2, 1}, idle, 2, 1)
}

func TestAssignKeepsItsArguments(t *testing.T) {
	l := []sched.Ranked{ranked(1, -1, all), ranked(2, 0, all)}
	held := []int{2, idle, 7}[:2]
	got, e := sched.Assign(config(2), l, held)
	if !slices.Equal(got, []int{2, 1}) || e != api.OK {
		t.Fatalf("Assign = %v, %v", got, e)
	}
	got[0] = 9
	_ = append(got, 9)
	if !slices.Equal(held[:3], []int{2, idle, 7}) || !slices.Equal(l, []sched.Ranked{ranked(1, -1, all), ranked(2, 0, all)}) {
		t.Errorf("the arguments are %v and %v", l, held[:3])
	}
}

// A nil scheduler.
func TestNilScheduler(t *testing.T) {
	// Of a scheduler that New did not make nothing is promised but that nothing panics; it answers like a nil one.
	for _, s := range []*scheduler{nil, {}} {
		for _, thread := range append([]int{0, 1, 255}, wrongThreads...) {
			for _, priority := range append([]int{0, 255}, wrongPriorities...) {
				expectError(t, "Add", s.Add(thread, priority, fifo()), api.ErrState)
				expectError(t, "Add", s.Add(thread, priority, params{}), api.ErrState)
				expectError(t, "SetPriority", s.SetPriority(thread, priority), api.ErrState)
			}
			expectError(t, "Remove", s.Remove(thread), api.ErrState)
			expectError(t, "Ready", s.Ready(thread), api.ErrState)
			expectError(t, "Block", s.Block(thread), api.ErrState)
			expectError(t, "Yield", s.Yield(thread), api.ErrState)
			expectError(t, "SetParams", s.SetParams(thread, fifo()), api.ErrState)
			expectError(t, "SetParams", s.SetParams(thread, params{}), api.ErrState)
		}
		for _, now := range append([]int64{0, 5, api.MaxTime}, wrongTimes...) {
			for _, list := range [][]int{nil, {idle}, {0}, {-2}, free(8)} {
				expectPickError(t, s, now, list, api.ErrState)
				expectError(t, "Charge", s.Charge(now, list), api.ErrState)
			}
			if l, e := s.Ranking(now); len(l) != 0 || e != api.ErrState {
				t.Errorf("Ranking(%d) = %v, %v", now, l, e)
			}
		}
		expectState(t, s)
	}
}
