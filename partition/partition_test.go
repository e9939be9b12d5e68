package partition_test

import (
	"math"
	"slices"
	"testing"

	"orpiment/api"
	"orpiment/partition"
)

var (
	wrongTimes = []int64{-1, -1000, api.MaxTime + 1, math.MaxInt64, math.MinInt64}
	wrongParts = []int{-1, api.MaxPartitions, 100, 256, 257, math.MaxInt, math.MinInt}
)

type part = partition.Part

func configOf(window, processors int, parts ...part) partition.Config {
	return partition.Config{Window: window, Processors: processors, Parts: parts}
}

func meterWith(t *testing.T, c partition.Config) *partition.Meter {
	t.Helper()
	m, e := partition.New(c)
	if m == nil || e != api.OK {
		t.Fatalf("New(%v) = %v, %v", c, m, e)
	}
	return m
}

func meterOf(t *testing.T, window, processors int, parts ...part) *partition.Meter {
	t.Helper()
	return meterWith(t, configOf(window, processors, parts...))
}

// charge charges a partition in each of some ticks, as normal time.
func charge(t *testing.T, m *partition.Meter, part int, ticks ...int64) {
	t.Helper()
	for _, now := range ticks {
		expectCharge(t, m, now, part, false, api.OK)
	}
}

// chargeCritical charges a partition in each of some ticks, as critical time.
func chargeCritical(t *testing.T, m *partition.Meter, part int, ticks ...int64) {
	t.Helper()
	for _, now := range ticks {
		expectCharge(t, m, now, part, true, api.OK)
	}
}

func expectCharge(t *testing.T, m *partition.Meter, now int64, part int, critical bool, want api.Errno) {
	t.Helper()
	if e := m.Charge(now, part, critical); e != want {
		t.Errorf("Charge(%d, %d, %v): %v; want %v", now, part, critical, e, want)
	}
}

// expectUsed checks the used time and the used critical time.
func expectUsed(t *testing.T, m *partition.Meter, now int64, part int, want, wantCritical int64) {
	t.Helper()
	if got, e := m.Used(now, part); got != want || e != api.OK {
		t.Errorf("Used(%d, %d) = %d, %v; want %d", now, part, got, e, want)
	}
	if got, e := m.UsedCritical(now, part); got != wantCritical || e != api.OK {
		t.Errorf("UsedCritical(%d, %d) = %d, %v; want %d", now, part, got, e, wantCritical)
	}
}

func expectHasBudget(t *testing.T, m *partition.Meter, now int64, part int, want bool) {
	t.Helper()
	if got, e := m.HasBudget(now, part); got != want || e != api.OK {
		t.Errorf("HasBudget(%d, %d) = %v, %v; want %v", now, part, got, e, want)
	}
}

func expectBankrupt(t *testing.T, m *partition.Meter, now int64, part int, want bool) {
	t.Helper()
	if got, e := m.Bankrupt(now, part); got != want || e != api.OK {
		t.Errorf("Bankrupt(%d, %d) = %v, %v; want %v", now, part, got, e, want)
	}
}

// expectCompare checks a comparison and the one of the same partitions the other way round.
func expectCompare(t *testing.T, m *partition.Meter, now int64, a, b, want int) {
	t.Helper()
	if got, e := m.Compare(now, a, b); got != want || e != api.OK {
		t.Errorf("Compare(%d, %d, %d) = %d, %v; want %d", now, a, b, got, e, want)
	}
	if got, e := m.Compare(now, b, a); got != -want || e != api.OK {
		t.Errorf("Compare(%d, %d, %d) = %d, %v; want %d", now, b, a, got, e, -want)
	}
}

func expectBudget(t *testing.T, m *partition.Meter, part int, want, wantCritical int64, wantError api.Errno) {
	t.Helper()
	if got, critical, e := m.Budget(part); got != want || critical != wantCritical || e != wantError {
		t.Errorf("Budget(%d) = %d, %d, %v; want %d, %d, %v", part, got, critical, e, want, wantCritical, wantError)
	}
}

// expectNone checks that a question is answered by an error and nothing else.
func expectNone[T comparable](t *testing.T, call string, now int64, parts []int, got T, e, want api.Errno) {
	t.Helper()
	var zero T
	if got != zero || e != want {
		t.Errorf("%s(%d, %v) = %v, %v; want %v, %v", call, now, parts, got, e, zero, want)
	}
}

// expectErrors checks that each method with a time and one partition has an error and nothing else.
func expectErrors(t *testing.T, m *partition.Meter, now int64, part int, want api.Errno) {
	t.Helper()
	for _, critical := range []bool{false, true} {
		expectCharge(t, m, now, part, critical, want)
	}
	used, e := m.Used(now, part)
	expectNone(t, "Used", now, []int{part}, used, e, want)
	used, e = m.UsedCritical(now, part)
	expectNone(t, "UsedCritical", now, []int{part}, used, e, want)
	has, e := m.HasBudget(now, part)
	expectNone(t, "HasBudget", now, []int{part}, has, e, want)
	has, e = m.Bankrupt(now, part)
	expectNone(t, "Bankrupt", now, []int{part}, has, e, want)
}

func expectCompareError(t *testing.T, m *partition.Meter, now int64, a, b int, want api.Errno) {
	t.Helper()
	order, e := m.Compare(now, a, b)
	expectNone(t, "Compare", now, []int{a, b}, order, e, want)
}

// The chapter's examples.

func TestFirstExample(t *testing.T) {
	m := meterOf(t, 10, 1, part{70, 0}, part{30, 0})
	expectBudget(t, m, 0, 7, 0, api.OK)
	expectBudget(t, m, 1, 3, 0, api.OK)
	for now := range int64(3) {
		expectHasBudget(t, m, now, 1, true)
		charge(t, m, 1, now)
	}
	expectHasBudget(t, m, 3, 1, false)
	expectUsed(t, m, 9, 1, 3, 0)
	expectHasBudget(t, m, 9, 1, false)
	expectUsed(t, m, 10, 1, 2, 0)
	expectHasBudget(t, m, 10, 1, true)
}

func TestSecondExample(t *testing.T) {
	m := meterOf(t, 10, 1, part{70, 0}, part{30, 10})
	expectBudget(t, m, 1, 3, 1, api.OK)
	expectBankrupt(t, m, 0, 1, false)
	chargeCritical(t, m, 1, 0)
	expectBankrupt(t, m, 0, 1, false)
	for now := int64(1); now <= 9; now++ {
		expectBankrupt(t, m, now, 1, true)
	}
	expectBankrupt(t, m, 10, 1, false)
}

// The third example of the whole document, with the first partition wanted always: both take turns of two ticks.
func TestTurnsOfTwoTicks(t *testing.T) {
	m := meterOf(t, 4, 1, part{50, 0}, part{50, 0})
	for now := range int64(100) {
		want := int(now / 2 % 2)
		expectHasBudget(t, m, now, 0, want == 0)
		charge(t, m, want, now)
	}
}

// P4.1

// shares returns 100 percent in as many partitions as asked for.
func shares(parts int) []part {
	list := make([]part, parts)
	for i := range list {
		list[i].Share = 100 / parts
	}
	list[0].Share += 100 % parts
	return list
}

func TestCheck(t *testing.T) {
	valid := shares(2)
	for _, x := range []struct {
		c    partition.Config
		want api.Errno
	}{
		{configOf(1, 1, part{100, 0}), api.OK},
		{configOf(1000, 8, part{100, 100}), api.OK},
		{configOf(1000, 8, shares(8)...), api.OK},
		{configOf(7, 3, part{0, 100}, part{100, 0}, part{0, 0}), api.OK},
		{configOf(7, 3, part{1, 99}, part{98, 100}, part{1, 100}), api.OK}, // the critical shares add up to anything
		{partition.Config{}, api.ErrRange},
		{configOf(0, 1, valid...), api.ErrRange},
		{configOf(-1, 1, valid...), api.ErrRange},
		{configOf(math.MinInt, 1, valid...), api.ErrRange},
		{configOf(1001, 1, valid...), api.ErrRange},
		{configOf(math.MaxInt, 1, valid...), api.ErrRange},
		{configOf(10, 0, valid...), api.ErrRange},
		{configOf(10, -1, valid...), api.ErrRange},
		{configOf(10, 9, valid...), api.ErrRange},
		{configOf(10, math.MaxInt, valid...), api.ErrRange},
		{configOf(10, 1), api.ErrEmpty},
		{partition.Config{Window: 10, Processors: 1, Parts: []part{}}, api.ErrEmpty},
		{configOf(10, 1, shares(9)...), api.ErrLimit},
		{configOf(10, 1, shares(100)...), api.ErrLimit},
		{configOf(10, 1, part{-1, 0}, part{101, 0}), api.ErrRange},
		{configOf(10, 1, part{50, 0}, part{50, 0}, part{-1, 0}, part{1, 0}), api.ErrRange},
		{configOf(10, 1, part{101, 0}), api.ErrRange},
		{configOf(10, 1, part{50, 0}, part{math.MinInt, 0}, part{math.MinInt, 0}, part{50, 0}), api.ErrRange},
		{configOf(10, 1, part{math.MaxInt, 0}, part{math.MaxInt, 0}, part{102, 0}), api.ErrRange},
		{configOf(10, 1, part{100, -1}), api.ErrRange},
		{configOf(10, 1, part{50, 0}, part{50, 101}), api.ErrRange},
		{configOf(10, 1, part{100, math.MaxInt}), api.ErrRange},
		{configOf(10, 1, part{100, math.MinInt}), api.ErrRange},
		{configOf(10, 1, part{0, 0}), api.ErrInvalid},
		{configOf(10, 1, part{99, 1}), api.ErrInvalid},
		{configOf(10, 1, part{70, 0}, part{29, 0}), api.ErrInvalid},
		{configOf(10, 1, part{70, 0}, part{31, 0}), api.ErrInvalid},
		{configOf(10, 1, part{100, 0}, part{100, 0}), api.ErrInvalid},
	} {
		if e := partition.Check(x.c); e != x.want {
			t.Errorf("Check(%v) = %v; want %v", x.c, e, x.want)
		}
		m, e := partition.New(x.c)
		if e != x.want || (m != nil) != (x.want == api.OK) {
			t.Errorf("New(%v) = %v, %v; want the error %v", x.c, m, e, x.want)
		}
	}
}

// Each of these configurations has all the errors that stand behind its own one.
func TestCheckOrder(t *testing.T) {
	wrong := append(shares(8), part{101, 0})
	for _, x := range []struct {
		c    partition.Config
		want api.Errno
	}{
		{configOf(0, 1, wrong...), api.ErrRange},
		{configOf(10, 9, wrong...), api.ErrRange},
		{configOf(0, 1), api.ErrRange},
		{configOf(10, 9), api.ErrRange},
		{configOf(10, 1, wrong...), api.ErrLimit},
		{configOf(10, 1, part{99, 0}, part{0, 101}), api.ErrRange},
		{configOf(10, 1, part{-1, 0}, part{99, 0}), api.ErrRange},
	} {
		if e := partition.Check(x.c); e != x.want {
			t.Errorf("Check(%v) = %v; want %v", x.c, e, x.want)
		}
	}
}

func TestNew(t *testing.T) {
	m := meterOf(t, 10, 2, part{30, 10}, part{70, 0})
	for p := range 2 {
		expectUsed(t, m, 0, p, 0, 0)
		expectHasBudget(t, m, 0, p, true)
		expectBankrupt(t, m, 0, p, p == 1)
	}
	expectCompare(t, m, 0, 0, 1, 0)
	charge(t, m, 0, 0)
}

func TestMetersAreIndependent(t *testing.T) {
	c := configOf(10, 1, part{30, 10}, part{70, 0})
	first, second := meterWith(t, c), meterWith(t, c)
	charge(t, first, 0, 5, 6)
	expectUsed(t, second, 1, 0, 0, 0)
	chargeCritical(t, second, 0, 2)
	expectUsed(t, first, 7, 0, 2, 0)
	expectUsed(t, second, 7, 0, 1, 1)
}

// The configuration belongs to the caller: it is not changed, and what the caller does with it later has no effect.
func TestConfigIsNotShared(t *testing.T) {
	all := append(shares(2), part{7, 7}, part{8, 8})
	c := configOf(10, 1, all[:2]...)
	m := meterWith(t, c)
	charge(t, m, 0, 0)
	if !slices.Equal(all, []part{{50, 0}, {50, 0}, {7, 7}, {8, 8}}) {
		t.Errorf("the configuration has become %v", all)
	}
	c.Parts[0], c.Parts[1] = part{100, 100}, part{0, 0}
	expectBudget(t, m, 0, 5, 0, api.OK)
	expectBudget(t, m, 1, 5, 0, api.OK)
}

func TestBudget(t *testing.T) {
	for _, x := range []struct {
		window, processors int
		part
		budget, critical int64
	}{
		{10, 1, part{70, 10}, 7, 1},
		{10, 1, part{69, 9}, 6, 0},
		{10, 1, part{0, 0}, 0, 0},
		{10, 8, part{99, 1}, 79, 0},
		{10, 8, part{100, 100}, 80, 80},
		{1, 1, part{99, 100}, 0, 1},
		{1, 8, part{13, 12}, 1, 0},
		{1, 3, part{33, 34}, 0, 1},
		{7, 3, part{50, 33}, 10, 6}, // the processors are counted before the rounding
		{1000, 8, part{100, 1}, 8000, 80},
		{999, 7, part{33, 67}, 2307, 4685},
	} {
		m := meterOf(t, x.window, x.processors, part{100 - x.Share, 0}, x.part)
		expectBudget(t, m, 1, x.budget, x.critical, api.OK)
	}
}

func TestBudgetErrors(t *testing.T) {
	for parts := 1; parts <= api.MaxPartitions; parts++ {
		m := meterOf(t, 100, 1, shares(parts)...)
		for p := range parts {
			expectBudget(t, m, p, int64(shares(parts)[p].Share), 0, api.OK)
		}
		for _, p := range append(wrongParts, parts) {
			expectBudget(t, m, p, 0, 0, api.ErrRange)
		}
	}
}

// P4.2

// Every processor has a charge in each tick, to any partitions and of both kinds.
func TestChargeOncePerProcessor(t *testing.T) {
	for processors := 1; processors <= api.MaxProcessors; processors++ {
		m := meterOf(t, 10, processors, part{50, 50}, part{50, 50})
		var used, usedCritical [2]int64
		for now := range int64(3) {
			for i := range processors {
				p, critical := i%2, i%3 == 0
				expectCharge(t, m, now, p, critical, api.OK)
				used[p]++
				if critical {
					usedCritical[p]++
				}
			}
			for p := range 2 {
				expectCharge(t, m, now, p, false, api.ErrLimit)
				expectCharge(t, m, now, p, true, api.ErrLimit)
			}
		}
		for p := range 2 {
			expectUsed(t, m, 3, p, used[p], usedCritical[p])
		}
	}
}

// A partition is charged whether it has budget or not.
func TestChargeBeyondTheBudget(t *testing.T) {
	m := meterOf(t, 10, 1, part{100, 0}, part{0, 0})
	charge(t, m, 1, 0, 1, 2, 3)
	chargeCritical(t, m, 1, 4, 5)
	expectUsed(t, m, 6, 1, 6, 2)
	expectHasBudget(t, m, 6, 1, false)
	expectBankrupt(t, m, 6, 1, true)
}

func TestErrors(t *testing.T) {
	m := meterOf(t, 10, 1, part{50, 50}, part{50, 50})
	charge(t, m, 0, 5)
	chargeCritical(t, m, 0, 6)
	for _, now := range wrongTimes {
		for _, p := range []int{0, 1, 2, -1} {
			expectErrors(t, m, now, p, api.ErrRange)
		}
	}
	for _, p := range append(wrongParts, 2) {
		for _, now := range []int64{0, 6, 7, 100} { // also out of order, and where the limit is reached: the range is examined first
			expectErrors(t, m, now, p, api.ErrRange)
		}
	}
	for _, now := range []int64{0, 4, 5} { // the order precedes the limit
		expectErrors(t, m, now, 0, api.ErrOrder)
		expectErrors(t, m, now, 1, api.ErrOrder)
	}
	for _, p := range []int{0, 1} {
		expectCharge(t, m, 6, p, true, api.ErrLimit)
	}
	// No error is a time that counts, or has charged anything.
	expectUsed(t, m, 6, 0, 1, 0)
	expectUsed(t, m, 6, 1, 0, 0)
	expectUsed(t, m, 7, 0, 2, 1)
	expectUsed(t, m, 7, 1, 0, 0)
}

// methods calls each method that is told a time, with valid partitions.
func methods(m *partition.Meter) []func(now int64) api.Errno {
	return []func(int64) api.Errno{
		func(now int64) api.Errno { return m.Charge(now, 0, false) },
		func(now int64) api.Errno { _, e := m.Used(now, 0); return e },
		func(now int64) api.Errno { _, e := m.UsedCritical(now, 0); return e },
		func(now int64) api.Errno { _, e := m.HasBudget(now, 0); return e },
		func(now int64) api.Errno { _, e := m.Bankrupt(now, 0); return e },
		func(now int64) api.Errno { _, e := m.Compare(now, 0, 1); return e },
	}
}

// Each method tells the time to all of them; the same time is in order again.
func TestEachMethodTellsTheTime(t *testing.T) {
	for told := range 6 {
		for next := range 6 {
			m := meterOf(t, 10, 8, part{50, 50}, part{50, 50})
			for _, x := range []struct {
				method int
				now    int64
				want   api.Errno
			}{{told, 30, api.OK}, {next, 29, api.ErrOrder}, {next, 0, api.ErrOrder}, {next, 30, api.OK}, {told, 31, api.OK}, {next, 30, api.ErrOrder}} {
				if e := methods(m)[x.method](x.now); e != x.want {
					t.Errorf("method %d behind method %d, at %d: %v; want %v", x.method, told, x.now, e, x.want)
				}
			}
		}
	}
}

// Budget has no time, and tells none.
func TestBudgetTellsNothing(t *testing.T) {
	m := meterOf(t, 10, 1, part{50, 20}, part{50, 0})
	charge(t, m, 0, 0, 1)
	for range 3 {
		expectBudget(t, m, 0, 5, 2, api.OK)
		expectBudget(t, m, 2, 0, 0, api.ErrRange)
	}
	charge(t, m, 1, 2)
	expectUsed(t, m, 3, 0, 2, 0)
}

// P4.3

// The charges of the tick now do not count yet, those from Window - 1 ticks ago count for the last time.
func TestBordersOfTheWindow(t *testing.T) {
	for _, window := range []int{1, 2, 3, 10, 999, 1000} {
		for _, start := range []int64{0, 1, 12345, api.MaxTime - int64(window)} {
			m := meterOf(t, window, 2, part{100, 100})
			charge(t, m, 0, start)
			chargeCritical(t, m, 0, start)
			expectUsed(t, m, start, 0, 0, 0)
			for age := int64(1); age < int64(window); age++ {
				expectUsed(t, m, start+age, 0, 2, 1)
			}
			expectUsed(t, m, start+int64(window), 0, 0, 0)
		}
	}
}

// The time may jump by any number of ticks; the slots that it passes are free again.
func TestJumps(t *testing.T) {
	const window = 10
	for _, x := range []struct{ jump, used, critical int64 }{
		{0, 3, 1}, {1, 5, 2}, {5, 5, 2}, {6, 4, 2}, {7, 2, 1}, {9, 2, 1}, {10, 0, 0}, {11, 0, 0}, {20, 0, 0}, {1003, 0, 0}, {1 << 39, 0, 0},
	} {
		m := meterOf(t, window, 2, part{100, 100})
		charge(t, m, 0, 6, 7)
		chargeCritical(t, m, 0, 7)
		charge(t, m, 0, 10)
		chargeCritical(t, m, 0, 10)
		now := 10 + x.jump
		expectUsed(t, m, now, 0, x.used, x.critical)
		for range window {
			now++
			charge(t, m, 0, now, now)
		}
		expectUsed(t, m, now+1, 0, 2*(window-1), 0)
	}
}

func TestHasBudget(t *testing.T) {
	m := meterOf(t, 10, 2, part{15, 0}, part{85, 0}) // budgets 3 and 17
	charge(t, m, 0, 0, 0)
	expectHasBudget(t, m, 0, 0, true)
	expectHasBudget(t, m, 1, 0, true)
	chargeCritical(t, m, 0, 1) // critical time counts as used time too
	expectHasBudget(t, m, 1, 0, true)
	for now := int64(2); now < 10; now++ {
		expectHasBudget(t, m, now, 0, false)
		expectHasBudget(t, m, now, 1, true)
	}
	expectHasBudget(t, m, 10, 0, true)
}

// Without a budget a partition never has any; without a critical one it is always bankrupt.
func TestNoBudget(t *testing.T) {
	m := meterOf(t, 10, 1, part{0, 100}, part{100, 0}, part{0, 9}) // 9 percent are rounded down to none
	for _, now := range []int64{0, 1, 50, api.MaxTime} {
		expectHasBudget(t, m, now, 0, false)
		expectHasBudget(t, m, now, 1, true)
		expectBankrupt(t, m, now, 0, false)
		expectBankrupt(t, m, now, 1, true)
		expectBankrupt(t, m, now, 2, true)
	}
}

// With a window of one tick nothing counts ever.
func TestWindowOfOneTick(t *testing.T) {
	m := meterOf(t, 1, 2, part{50, 50}, part{50, 0})
	for now := range int64(20) {
		expectHasBudget(t, m, now, 0, true)
		charge(t, m, 0, now)
		chargeCritical(t, m, 0, now)
		expectUsed(t, m, now, 0, 0, 0)
		expectBankrupt(t, m, now, 0, false)
		expectBankrupt(t, m, now, 1, true)
	}
}

func TestBankrupt(t *testing.T) {
	m := meterOf(t, 10, 2, part{100, 15}) // critical budget 3
	charge(t, m, 0, 0, 0, 1, 1)           // normal time makes nobody bankrupt
	chargeCritical(t, m, 0, 2, 2)
	expectBankrupt(t, m, 3, 0, false)
	chargeCritical(t, m, 0, 3)
	expectBankrupt(t, m, 3, 0, false)
	for now := int64(4); now < 12; now++ {
		expectBankrupt(t, m, now, 0, true)
	}
	expectBankrupt(t, m, 12, 0, false)
}

// The usage is compared relative to the budget.
func TestCompare(t *testing.T) {
	m := meterOf(t, 20, 1, part{50, 0}, part{25, 100}, part{25, 0}, part{0, 0}, part{0, 0}) // budgets 10, 5 and 5
	expectAll := func(now int64, want [3]int) {
		t.Helper()
		for p := range 5 {
			expectCompare(t, m, now, p, p, 0)
			if p < 3 { // used or not, what has no budget is last
				expectCompare(t, m, now, p, 3, -1)
				expectCompare(t, m, now, p, 4, -1)
			}
		}
		expectCompare(t, m, now, 0, 1, want[0])
		expectCompare(t, m, now, 0, 2, want[1])
		expectCompare(t, m, now, 1, 2, want[2])
		expectCompare(t, m, now, 3, 4, 0)
	}
	expectAll(0, [3]int{0, 0, 0})
	charge(t, m, 0, 0)
	expectAll(0, [3]int{0, 0, 0}) // the tick now does not count
	expectAll(1, [3]int{1, 1, 0}) // 1/10, 0, 0
	chargeCritical(t, m, 1, 1)
	expectAll(2, [3]int{-1, 1, 1}) // 1/10, 1/5, 0
	charge(t, m, 0, 2)
	expectAll(3, [3]int{0, 1, 1}) // 2/10, 1/5, 0
	charge(t, m, 2, 3, 4)
	expectAll(5, [3]int{0, -1, -1}) // 2/10, 1/5, 2/5
	charge(t, m, 4, 5)
	expectAll(6, [3]int{0, -1, -1})
	charge(t, m, 0, 6, 7, 8, 9, 10, 11, 12, 13, 14)
	expectAll(15, [3]int{1, 1, -1}) // 11/10, 1/5, 2/5
	expectAll(21, [3]int{1, 1, -1}) // 10/10, 0, 2/5
	expectAll(24, [3]int{1, 1, 0})  // 9/10, 0, 0
	expectAll(100, [3]int{0, 0, 0})
}

// The greatest numbers that are compared.
func TestCompareMuch(t *testing.T) {
	m := meterOf(t, 1000, 8, part{50, 0}, part{50, 0})
	for now := range int64(999) {
		for range 8 {
			charge(t, m, int(now%2), now)
		}
	}
	expectUsed(t, m, 999, 0, 4000, 0)
	expectUsed(t, m, 999, 1, 3992, 0)
	expectCompare(t, m, 999, 0, 1, 1)
	expectCompare(t, m, 1000, 0, 1, 0)
	expectCompare(t, m, 1001, 0, 1, 1)
}

func TestCompareErrors(t *testing.T) {
	m := meterOf(t, 10, 1, part{50, 0}, part{50, 0})
	charge(t, m, 0, 5)
	for _, now := range wrongTimes {
		expectCompareError(t, m, now, 0, 1, api.ErrRange)
		expectCompareError(t, m, now, 5, -5, api.ErrRange)
	}
	for _, p := range append(wrongParts, 2) {
		for _, now := range []int64{0, 5, 100} {
			expectCompareError(t, m, now, p, 0, api.ErrRange)
			expectCompareError(t, m, now, 1, p, api.ErrRange)
			expectCompareError(t, m, now, p, p, api.ErrRange)
		}
	}
	for _, now := range []int64{0, 4} {
		expectCompareError(t, m, now, 0, 1, api.ErrOrder)
		expectCompareError(t, m, now, 0, 0, api.ErrOrder)
	}
	expectCompare(t, m, 5, 0, 1, 0)
}

// The last time is a time like all others.
func TestLastTime(t *testing.T) {
	m := meterOf(t, 10, 1, part{50, 50}, part{50, 0})
	charge(t, m, 0, api.MaxTime-1)
	expectUsed(t, m, api.MaxTime, 0, 1, 0)
	expectCompare(t, m, api.MaxTime, 0, 1, 1)
	charge(t, m, 0, api.MaxTime)
	expectCharge(t, m, api.MaxTime, 0, false, api.ErrLimit)
	expectErrors(t, m, api.MaxTime+1, 0, api.ErrRange)
	expectErrors(t, m, api.MaxTime-1, 0, api.ErrOrder)
}

// Types and functions: a nil meter.

func TestNilMeter(t *testing.T) {
	var m *partition.Meter
	for _, now := range []int64{-1, 0, 7, api.MaxTime, api.MaxTime + 1, math.MinInt64} {
		for _, p := range append(wrongParts, 0, 1) {
			expectErrors(t, m, now, p, api.ErrState)
			expectCompareError(t, m, now, p, 0, api.ErrState)
			expectCompareError(t, m, now, 0, p, api.ErrState)
			expectBudget(t, m, p, 0, 0, api.ErrState)
		}
	}
}

// A meter that New did not make has no promise but that nothing panics: it has no partitions.
func TestMeterOfNoPartitions(t *testing.T) {
	m := &partition.Meter{}
	expectErrors(t, m, 0, 0, api.ErrRange)
	expectCompareError(t, m, 0, 0, 0, api.ErrRange)
	expectBudget(t, m, 0, 0, 0, api.ErrRange)
}
