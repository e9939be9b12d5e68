package sporadic_test

import (
	"math"
	"slices"
	"testing"

	"orpiment/api"
	"orpiment/sporadic"
)

// due is a shorter name for a replenishment.
type due = sporadic.Replenishment

var (
	wrongTimes      = []int64{-1, -1000, api.MaxTime + 1, math.MaxInt64, math.MinInt64}
	wrongPriorities = []int{-1, api.MaxPriority + 1, math.MaxInt, math.MinInt}
)

// serverOf returns a server with 4 pending replenishments and the lesser priority 5.
func serverOf(t *testing.T, budget, period int64) *sporadic.Server {
	t.Helper()
	return serverWith(t, sporadic.Params{Budget: budget, Period: period, Pending: 4, Low: 5})
}

func serverWith(t *testing.T, p sporadic.Params) *sporadic.Server {
	t.Helper()
	s, e := sporadic.New(p)
	if s == nil || e != api.OK {
		t.Fatalf("New(%v) = %v, %v", p, s, e)
	}
	return s
}

// run runs the thread in each of some ticks.
func run(t *testing.T, s *sporadic.Server, ticks ...int64) {
	t.Helper()
	for _, now := range ticks {
		if e := s.Run(now); e != api.OK {
			t.Fatalf("Run(%d): %v", now, e)
		}
	}
}

func expectPending(t *testing.T, s *sporadic.Server, want ...due) {
	t.Helper()
	if got := s.Replenishments(); !slices.Equal(got, want) {
		t.Errorf("Replenishments = %v; want %v", got, want)
	}
	next, pending := s.Next()
	if pending != (len(want) > 0) || pending && next != want[0].Time || !pending && next != 0 {
		t.Errorf("Next = %d, %v; want that of %v", next, pending, want)
	}
}

func expectBudget(t *testing.T, s *sporadic.Server, now, want int64) {
	t.Helper()
	if got, e := s.Budget(now); got != want || e != api.OK {
		t.Errorf("Budget(%d) = %d, %v; want %d", now, got, e, want)
	}
}

func expectRun(t *testing.T, s *sporadic.Server, now int64, want api.Errno) {
	t.Helper()
	if e := s.Run(now); e != want {
		t.Errorf("Run(%d): %v; want %v", now, e, want)
	}
}

func expectPriority(t *testing.T, s *sporadic.Server, now int64, normal, want int) {
	t.Helper()
	if got, e := s.Priority(now, normal); got != want || e != api.OK {
		t.Errorf("Priority(%d, %d) = %d, %v; want %d", now, normal, got, e, want)
	}
}

// expectErrors checks that Run, Budget and Priority with a time have an error and nothing else.
func expectErrors(t *testing.T, s *sporadic.Server, now int64, want api.Errno) {
	t.Helper()
	expectRun(t, s, now, want)
	if got, e := s.Budget(now); got != 0 || e != want {
		t.Errorf("Budget(%d) = %d, %v; want 0, %v", now, got, e, want)
	}
	if got, e := s.Priority(now, 10); got != 0 || e != want {
		t.Errorf("Priority(%d, 10) = %d, %v; want 0, %v", now, got, e, want)
	}
}

// The chapter's examples.

func TestFirstExample(t *testing.T) {
	s := serverOf(t, 2, 5)
	run(t, s, 0, 1)
	expectPending(t, s, due{7, 2})
	expectRun(t, s, 2, api.ErrLimit)
	expectBudget(t, s, 7, 2)
	expectPending(t, s)
}

func TestSecondExample(t *testing.T) {
	s := serverOf(t, 3, 5)
	run(t, s, 0, 2)
	expectPending(t, s, due{6, 1})
	expectBudget(t, s, 4, 1)
	expectPending(t, s, due{6, 1}, due{8, 1})
}

// The second example of the whole document: what runs in the ticks 0 and 1 runs again in tick 7, and not before.
func TestRunsAgain(t *testing.T) {
	s := serverOf(t, 2, 5)
	run(t, s, 0, 1)
	for now := int64(2); now < 7; now++ {
		expectRun(t, s, now, api.ErrLimit)
	}
	expectRun(t, s, 7, api.OK)
}

// P3.1

func TestCheck(t *testing.T) {
	for _, x := range []struct {
		p    sporadic.Params
		want api.Errno
	}{
		{sporadic.Params{Budget: 1, Period: 1, Pending: 1, Low: 0}, api.OK},
		{sporadic.Params{Budget: 1000000, Period: 1000000, Pending: 32, Low: 255}, api.OK},
		{sporadic.Params{Budget: 1, Period: 1000000, Pending: 1, Low: 0}, api.OK},
		{sporadic.Params{Budget: 7, Period: 7, Pending: 1, Low: 9}, api.OK},
		{sporadic.Params{}, api.ErrRange},
		{sporadic.Params{Budget: 0, Period: 5, Pending: 1, Low: 0}, api.ErrRange},
		{sporadic.Params{Budget: -1, Period: 5, Pending: 1, Low: 0}, api.ErrRange},
		{sporadic.Params{Budget: math.MinInt64, Period: math.MaxInt64, Pending: 1, Low: 0}, api.ErrRange},
		{sporadic.Params{Budget: 6, Period: 5, Pending: 1, Low: 0}, api.ErrRange},
		{sporadic.Params{Budget: 1, Period: 0, Pending: 1, Low: 0}, api.ErrRange},
		{sporadic.Params{Budget: 1, Period: -5, Pending: 1, Low: 0}, api.ErrRange},
		{sporadic.Params{Budget: 5, Period: 1000001, Pending: 1, Low: 0}, api.ErrRange},
		{sporadic.Params{Budget: 1000001, Period: 1000001, Pending: 1, Low: 0}, api.ErrRange},
		{sporadic.Params{Budget: math.MaxInt64, Period: math.MaxInt64, Pending: 1, Low: 0}, api.ErrRange},
		{sporadic.Params{Budget: 2, Period: 5, Pending: 0, Low: 0}, api.ErrRange},
		{sporadic.Params{Budget: 2, Period: 5, Pending: -1, Low: 0}, api.ErrRange},
		{sporadic.Params{Budget: 2, Period: 5, Pending: 33, Low: 0}, api.ErrRange},
		{sporadic.Params{Budget: 2, Period: 5, Pending: math.MaxInt, Low: 0}, api.ErrRange},
		{sporadic.Params{Budget: 2, Period: 5, Pending: 1, Low: -1}, api.ErrRange},
		{sporadic.Params{Budget: 2, Period: 5, Pending: 1, Low: 256}, api.ErrRange},
		{sporadic.Params{Budget: 2, Period: 5, Pending: 1, Low: math.MinInt}, api.ErrRange},
	} {
		if e := sporadic.Check(x.p); e != x.want {
			t.Errorf("Check(%v) = %v; want %v", x.p, e, x.want)
		}
		s, e := sporadic.New(x.p)
		if e != x.want || (s != nil) != (x.want == api.OK) {
			t.Errorf("New(%v) = %v, %v; want the error %v", x.p, s, e, x.want)
		}
	}
}

func TestNew(t *testing.T) {
	s := serverOf(t, 3, 5)
	expectPending(t, s)
	expectBudget(t, s, 0, 3)
	expectPending(t, s)
	expectBudget(t, s, 1000, 3)
	expectPending(t, s)
}

func TestServersAreIndependent(t *testing.T) {
	first, second := serverOf(t, 3, 5), serverOf(t, 3, 5)
	run(t, first, 0, 1, 2)
	expectPending(t, second)
	expectBudget(t, second, 0, 3)
	run(t, second, 4)
	expectPending(t, first, due{8, 3})
	expectBudget(t, first, 3, 0)
}

// P3.2

// Every tick of a run costs one of the budget, from the first tick on.
func TestRunTakesTheBudget(t *testing.T) {
	s := serverOf(t, 4, 100)
	for now := range int64(4) {
		expectBudget(t, s, now, 4-now)
		run(t, s, now)
		expectBudget(t, s, now, 3-now)
	}
	expectRun(t, s, 4, api.ErrLimit)
}

// A chunk grows as long as the thread runs in each tick, also if the budget is asked for in between.
func TestChunkOfConsecutiveTicks(t *testing.T) {
	s := serverOf(t, 5, 10)
	run(t, s, 3, 4)
	expectBudget(t, s, 4, 3)
	expectBudget(t, s, 5, 3)
	expectPending(t, s)
	run(t, s, 5)
	expectPending(t, s)
	expectBudget(t, s, 6, 2)
	expectPending(t, s) // tick 6 may still belong to the chunk
	expectBudget(t, s, 7, 2)
	expectPending(t, s, due{16, 3})
}

// A run behind a gap ends the chunk before it, and begins another one.
func TestChunkEndsWithTheNextRun(t *testing.T) {
	s := serverOf(t, 5, 10)
	run(t, s, 3, 4, 6)
	expectPending(t, s, due{15, 2})
	run(t, s, 7, 20)
	expectPending(t, s) // both chunks were replenished: the second one at 18
	expectBudget(t, s, 22, 4)
	expectPending(t, s, due{31, 1})
}

// The chunk ends with its last tick when the budget is used up, even if the thread runs in the next tick.
func TestChunkEndsWithTheBudget(t *testing.T) {
	s := serverOf(t, 2, 3)
	run(t, s, 0, 3)
	expectPending(t, s, due{4, 1}, due{7, 1})
	run(t, s, 4)
	expectPending(t, s, due{7, 1}, due{8, 1})
	expectRun(t, s, 5, api.ErrLimit)
	expectPending(t, s, due{7, 1}, due{8, 1})
}

// What is replenished while a chunk lasts does not end it.
func TestChunkOutlastsReplenishment(t *testing.T) {
	s := serverOf(t, 3, 4)
	run(t, s, 0, 4, 5)
	expectPending(t, s)
	expectBudget(t, s, 5, 1)
	run(t, s, 6)
	expectPending(t, s, due{11, 3})
}

// With a budget as long as the period all ticks of a period are one chunk.
func TestWholePeriod(t *testing.T) {
	s := serverWith(t, sporadic.Params{Budget: 1000000, Period: 1000000, Pending: 1, Low: 0})
	for now := range int64(1000000) {
		if e := s.Run(now); e != api.OK {
			t.Fatalf("Run(%d): %v", now, e)
		}
	}
	expectPending(t, s, due{2000000, 1000000})
	expectRun(t, s, 1999999, api.ErrLimit)
	expectRun(t, s, 2000000, api.OK)
}

// If as many replenishments are pending as may be, the last one becomes greater and later.
func TestPendingIsFull(t *testing.T) {
	s := serverWith(t, sporadic.Params{Budget: 5, Period: 20, Pending: 2, Low: 0})
	run(t, s, 0, 2, 4)
	expectPending(t, s, due{21, 1}, due{23, 1})
	run(t, s, 5)
	expectBudget(t, s, 7, 1)
	expectPending(t, s, due{21, 1}, due{26, 3})
	run(t, s, 9)
	expectPending(t, s, due{21, 1}, due{30, 4})
	expectBudget(t, s, 25, 1)
	run(t, s, 25)
	expectPending(t, s, due{30, 4}, due{46, 1})
	expectBudget(t, s, 29, 0)
	expectBudget(t, s, 30, 4)
}

func TestOnePending(t *testing.T) {
	s := serverWith(t, sporadic.Params{Budget: 3, Period: 10, Pending: 1, Low: 0})
	run(t, s, 0, 2)
	expectPending(t, s, due{11, 1})
	run(t, s, 4)
	expectPending(t, s, due{15, 3})
	expectRun(t, s, 14, api.ErrLimit)
	expectBudget(t, s, 15, 3)
}

// Each of 32 replenishments is kept on its own; the next one is added to the last.
func TestMostPending(t *testing.T) {
	s := serverWith(t, sporadic.Params{Budget: 40, Period: 1000, Pending: 32, Low: 0})
	var want []due
	for i := range int64(32) {
		run(t, s, 2*i)
		want = append(want, due{2*i + 1001, 1})
	}
	expectBudget(t, s, 64, 8)
	expectPending(t, s, want...)
	run(t, s, 64)
	expectBudget(t, s, 66, 7)
	want[31] = due{1065, 2}
	expectPending(t, s, want...)
	expectBudget(t, s, 1031, 7+16)
	expectPending(t, s, want[16:]...)
}

// What is due in the tick behind a chunk is taken before the chunk ends, so that its place is free then.
func TestReplenishedBeforeTheChunkEnds(t *testing.T) {
	p := sporadic.Params{Budget: 3, Period: 4, Pending: 1, Low: 0}
	s := serverWith(t, p)
	run(t, s, 0, 4)
	expectPending(t, s, due{5, 1})
	expectBudget(t, s, 7, 2)
	expectPending(t, s, due{9, 1})

	s = serverWith(t, p)
	run(t, s, 0, 3)
	expectPending(t, s, due{5, 1}) // due one tick later than what is taken first
	expectBudget(t, s, 6, 1)
	expectPending(t, s, due{8, 2})
}

// What is due behind that tick stays until the chunk has ended, even if it is due at the time that is told.
func TestReplenishedBehindTheChunk(t *testing.T) {
	s := serverWith(t, sporadic.Params{Budget: 4, Period: 6, Pending: 1, Low: 0})
	run(t, s, 0, 2)
	expectPending(t, s, due{7, 1})
	expectBudget(t, s, 7, 2)
	expectPending(t, s, due{9, 2})
}

func TestRunErrors(t *testing.T) {
	s := serverOf(t, 3, 5)
	run(t, s, 10)
	for _, now := range wrongTimes {
		expectRun(t, s, now, api.ErrRange)
	}
	for _, now := range []int64{0, 9, 10} {
		expectRun(t, s, now, api.ErrOrder)
	}
	expectBudget(t, s, 10, 2) // so that none of the errors was a time that counts, or a tick that was run
	expectPending(t, s)
	expectBudget(t, s, 12, 2)
	expectPending(t, s, due{16, 1})
	expectRun(t, s, 11, api.ErrOrder)
	run(t, s, 12)
	expectRun(t, s, 12, api.ErrOrder)
	expectBudget(t, s, 12, 1)
}

// The tick of a run is over, whether the budget is used up or not; this is found before the budget is.
func TestRunTwiceInATick(t *testing.T) {
	s := serverOf(t, 2, 5)
	for _, now := range []int64{0, 1} {
		run(t, s, now)
		expectRun(t, s, now, api.ErrOrder)
		expectBudget(t, s, now, 1-now)
		expectRun(t, s, now, api.ErrOrder)
	}
	expectPending(t, s, due{7, 2})
}

// A run without a budget tells the time; it is no run, so that the same tick is not out of order.
func TestRunWithoutBudget(t *testing.T) {
	s := serverOf(t, 1, 5)
	run(t, s, 0)
	for range 3 {
		expectRun(t, s, 4, api.ErrLimit)
		expectPending(t, s, due{6, 1})
	}
	expectErrors(t, s, 3, api.ErrOrder)
	expectBudget(t, s, 4, 0)
	run(t, s, 6)
	expectPending(t, s, due{12, 1})
}

// The first and the last time are times like all others.
func TestBordersOfTime(t *testing.T) {
	s := serverOf(t, 2, 5)
	run(t, s, 0, api.MaxTime)
	expectPending(t, s)
	expectBudget(t, s, api.MaxTime, 1)
	expectRun(t, s, api.MaxTime, api.ErrOrder)
	expectErrors(t, s, api.MaxTime+1, api.ErrRange)
	s = serverWith(t, sporadic.Params{Budget: 1, Period: 1000000, Pending: 1, Low: 0})
	run(t, s, api.MaxTime)
	expectPending(t, s, due{api.MaxTime + 1000001, 1})
}

// P3.3

func TestBudget(t *testing.T) {
	s := serverOf(t, 3, 5)
	run(t, s, 0, 2, 4)
	expectPending(t, s, due{6, 1}, due{8, 1}, due{10, 1})
	for now, want := range []int64{4: 0, 5: 0, 6: 1, 7: 1, 8: 2, 9: 2, 10: 3, 11: 3} {
		if now >= 4 {
			expectBudget(t, s, int64(now), want)
			expectBudget(t, s, int64(now), want)
		}
	}
	expectPending(t, s)
}

// A time that jumps far ahead takes all that is due until then, also the chunk that it ends.
func TestBudgetMuchLater(t *testing.T) {
	s := serverOf(t, 4, 10)
	run(t, s, 0, 2, 4)
	expectBudget(t, s, 12, 2)
	expectPending(t, s, due{13, 1}, due{15, 1})
	run(t, s, 12)
	expectBudget(t, s, 23, 4)
	expectPending(t, s)
	run(t, s, 30, 31)
	expectBudget(t, s, api.MaxTime, 4)
	expectPending(t, s)
}

func TestPriority(t *testing.T) {
	s := serverOf(t, 2, 5) // Low is 5
	for _, normal := range []int{0, 4, 5, 6, 255} {
		expectPriority(t, s, 0, normal, normal)
	}
	run(t, s, 0)
	expectPriority(t, s, 0, 20, 20)
	run(t, s, 1)
	for _, now := range []int64{1, 2, 6} {
		for normal, want := range map[int]int{0: 0, 4: 4, 5: 5, 6: 5, 20: 5, 255: 5} {
			expectPriority(t, s, now, normal, want)
		}
	}
	expectPriority(t, s, 7, 20, 20)
	expectPending(t, s) // Priority has told the time
	expectErrors(t, s, 6, api.ErrOrder)
}

func TestPriorityWithGreatestAndLeastLow(t *testing.T) {
	for _, x := range []struct{ low, want int }{{0, 0}, {255, 100}} {
		s := serverWith(t, sporadic.Params{Budget: 1, Period: 5, Pending: 1, Low: x.low})
		expectPriority(t, s, 0, 100, 100)
		run(t, s, 0)
		expectPriority(t, s, 1, 100, x.want)
	}
}

// Each of the two questions ends a chunk whose next tick is over.
func TestQuestionsTellTheTime(t *testing.T) {
	for i, ask := range []func(*sporadic.Server, int64) api.Errno{
		func(s *sporadic.Server, now int64) api.Errno { _, e := s.Budget(now); return e },
		func(s *sporadic.Server, now int64) api.Errno { _, e := s.Priority(now, 10); return e },
	} {
		s := serverOf(t, 3, 5)
		run(t, s, 0)
		for now, want := range [][]due{0: nil, 1: nil, 2: {{6, 1}}, 5: {{6, 1}}, 6: nil} {
			if now > 2 && now < 5 {
				continue
			}
			if e := ask(s, int64(now)); e != api.OK {
				t.Errorf("question %d at %d: %v", i, now, e)
			}
			expectPending(t, s, want...)
		}
		expectErrors(t, s, 5, api.ErrOrder)
	}
}

func TestQuestionErrors(t *testing.T) {
	s := serverOf(t, 3, 5)
	run(t, s, 10)
	for _, now := range wrongTimes {
		expectErrors(t, s, now, api.ErrRange)
	}
	for _, now := range []int64{0, 1, 9} {
		expectErrors(t, s, now, api.ErrOrder)
	}
	// A wrong priority is found before the order, and its time does not count.
	for _, normal := range wrongPriorities {
		for _, now := range []int64{-1, 0, 10, 12, 100, api.MaxTime, api.MaxTime + 1} {
			if got, e := s.Priority(now, normal); got != 0 || e != api.ErrRange {
				t.Errorf("Priority(%d, %d) = %d, %v", now, normal, got, e)
			}
		}
	}
	expectPending(t, s)
	expectBudget(t, s, 10, 2)
	run(t, s, 11) // in the chunk of tick 10
	expectBudget(t, s, 13, 1)
	expectPending(t, s, due{17, 2})
}

// Next and Replenishments tell no time, so that a chunk goes on.
func TestNextAndReplenishmentsTellNothing(t *testing.T) {
	s := serverOf(t, 4, 5)
	run(t, s, 0, 2, 3)
	for range 3 {
		expectPending(t, s, due{6, 1})
	}
	run(t, s, 4)
	expectPending(t, s, due{6, 1}, due{10, 3})
}

func TestReplenishmentsAreNewMemory(t *testing.T) {
	s := serverOf(t, 3, 5)
	run(t, s, 0, 2, 4)
	want := []due{{6, 1}, {8, 1}, {10, 1}}
	first, second := s.Replenishments(), s.Replenishments()
	first[0] = due{99, 99}
	first = append(first[:1], due{98, 98})
	if !slices.Equal(second, want) {
		t.Errorf("the second result is %v", second)
	}
	expectPending(t, s, want...)
	expectBudget(t, s, 9, 2)
	run(t, s, 9)
	if !slices.Equal(second, want) {
		t.Errorf("the result has changed with the server: %v", second)
	}
}

// Types and functions: a nil server.

func TestNilServer(t *testing.T) {
	// A server that no function made has no promise but that nothing panics; it answers as a nil one.
	for _, s := range []*sporadic.Server{nil, {}} {
		for _, now := range []int64{-1, 0, 7, api.MaxTime, api.MaxTime + 1, math.MinInt64} {
			expectErrors(t, s, now, api.ErrState)
			for _, normal := range wrongPriorities {
				if got, e := s.Priority(now, normal); got != 0 || e != api.ErrState {
					t.Errorf("Priority(%d, %d) = %d, %v", now, normal, got, e)
				}
			}
		}
		expectPending(t, s)
	}
}
