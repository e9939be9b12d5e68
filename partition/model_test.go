package partition_test

import (
	"slices"
	"testing"

	"orpiment/api"
	"orpiment/partition"
)

// model is a meter that keeps all charges, and counts them for each question.
type model struct {
	partition.Config
	charges []made
	told    int64
}

type made struct {
	now      int64
	part     int
	critical bool
}

func (m *model) check(now int64, parts ...int) api.Errno {
	wrong := func(part int) bool { return part < 0 || part >= len(m.Parts) }
	switch {
	case now < 0 || now > api.MaxTime || slices.ContainsFunc(parts, wrong):
		return api.ErrRange
	case now < m.told:
		return api.ErrOrder
	}
	return api.OK
}

// sum counts the charges in the ticks from first to last.
func (m *model) sum(first, last int64, counts func(made) bool) int64 {
	n := int64(0)
	for _, x := range m.charges {
		if first <= x.now && x.now <= last && counts(x) {
			n++
		}
	}
	return n
}

func (m *model) used(now int64, part int) int64 {
	return m.sum(now-int64(m.Window)+1, now-1, func(x made) bool { return x.part == part })
}

func (m *model) usedCritical(now int64, part int) int64 {
	return m.sum(now-int64(m.Window)+1, now-1, func(x made) bool { return x.part == part && x.critical })
}

func (m *model) budget(part int) int64 {
	return int64(m.Parts[part].Share * m.Window * m.Processors / 100)
}

func (m *model) critical(part int) int64 {
	return int64(m.Parts[part].Critical * m.Window * m.Processors / 100)
}

func (m *model) precedes(now int64, a, b int) bool {
	switch {
	case m.budget(a) == 0:
		return false
	case m.budget(b) == 0:
		return true
	}
	return m.used(now, a)*m.budget(b) < m.used(now, b)*m.budget(a)
}

func (m *model) compare(now int64, a, b int) int {
	switch {
	case m.precedes(now, a, b):
		return -1
	case m.precedes(now, b, a):
		return 1
	}
	return 0
}

func (m *model) charge(now int64, part int, critical bool) api.Errno {
	if e := m.check(now, part); e != api.OK {
		return e
	}
	if m.sum(now, now, func(made) bool { return true }) == int64(m.Processors) {
		return api.ErrLimit
	}
	m.charges = append(m.charges, made{now, part, critical})
	return api.OK
}

// numbers is a sequence of numbers that looks random and is the same in each run.
type numbers uint32

func (n *numbers) below(end int) int {
	*n = *n*1664525 + 1013904223
	return int(*n>>8) % end
}

// configs has meters of all shapes: long and short windows, few and many processors and partitions.
func configs() []partition.Config {
	return []partition.Config{
		configOf(1, 1, part{50, 100}, part{50, 0}),
		configOf(2, 8, part{50, 10}, part{50, 20}),
		configOf(3, 2, part{100, 30}, part{0, 30}),
		configOf(10, 1, part{70, 10}, part{30, 20}),
		configOf(10, 3, part{0, 50}, part{60, 10}, part{0, 0}, part{40, 100}),
		configOf(37, 2, part{33, 1}, part{33, 2}, part{34, 50}),
		configOf(100, 8, shares(8)...),
		configOf(100, 1, part{90, 1}, part{5, 10}, part{4, 3}, part{1, 0}),
		configOf(1000, 4, part{1, 1}, part{99, 0}),
	}
}

// time returns a time for a call: mostly the one told or a little later, now and then much later, or a wrong one.
func (m *model) time(n *numbers) int64 {
	switch n.below(40) {
	case 0:
		return m.told - 1 - int64(n.below(4))
	case 1:
		return m.told + int64(n.below(2*m.Window+3))
	case 2:
		return m.told + int64(m.Window) - 1 + int64(n.below(3))
	case 3:
		return wrongTimes[n.below(len(wrongTimes))]
	case 4, 5, 6, 7, 8, 9, 10, 11:
		return m.told + int64(n.below(3))
	}
	return m.told
}

// same checks that the meter has answered what the model does.
func same[T comparable](t *testing.T, call string, now int64, got T, e api.Errno, want func() T, wantError api.Errno) {
	t.Helper()
	var result T
	if wantError == api.OK {
		result = want()
	}
	if got != result || e != wantError {
		t.Fatalf("%s at %d = %v, %v; want %v, %v", call, now, got, e, result, wantError)
	}
}

// step makes one call of the meter and of the model, and checks that both have the same result.
func step(t *testing.T, meter *partition.Meter, m *model, n *numbers) {
	t.Helper()
	now, a, b := m.time(n), n.below(len(m.Parts)), n.below(len(m.Parts))
	if n.below(50) == 0 {
		a = len(m.Parts) + n.below(3)
	}
	if n.below(50) == 0 {
		b = -1
	}
	want := m.check(now, a)
	switch n.below(9) {
	case 0:
		got, e := meter.Used(now, a)
		same(t, "Used", now, got, e, func() int64 { return m.used(now, a) }, want)
	case 1:
		got, e := meter.UsedCritical(now, a)
		same(t, "UsedCritical", now, got, e, func() int64 { return m.usedCritical(now, a) }, want)
	case 2:
		got, e := meter.HasBudget(now, a)
		same(t, "HasBudget", now, got, e, func() bool { return m.used(now, a) < m.budget(a) }, want)
	case 3:
		got, e := meter.Bankrupt(now, a)
		same(t, "Bankrupt", now, got, e, func() bool { return m.usedCritical(now, a) >= m.critical(a) }, want)
	case 4:
		want = m.check(now, a, b)
		got, e := meter.Compare(now, a, b)
		same(t, "Compare", now, got, e, func() int { return m.compare(now, a, b) }, want)
	default:
		critical := n.below(3) == 0
		want = m.charge(now, a, critical)
		if e := meter.Charge(now, a, critical); e != want {
			t.Fatalf("Charge(%d, %d, %v): %v; want %v", now, a, critical, e, want)
		}
	}
	if want == api.OK {
		m.told = now
	}
}

// P4.2 and P4.3: behind any calls the meter answers what all the charges say.
func TestMeterIsItsModel(t *testing.T) {
	for i, c := range configs() {
		for seed := range 4 {
			meter, m, n := meterWith(t, c), &model{Config: c}, numbers(10*i+seed)
			for range 3000 {
				step(t, meter, m, &n)
			}
			if len(m.charges) < 100 {
				t.Fatalf("%v: only %d charges", c, len(m.charges))
			}
		}
	}
}

// P4.4

// usedOf returns the used times of all partitions.
func usedOf(t *testing.T, meter *partition.Meter, now int64, parts int) []int64 {
	t.Helper()
	list := make([]int64, parts)
	for part := range list {
		used, e := meter.Used(now, part)
		if e != api.OK {
			t.Fatalf("Used(%d, %d): %v", now, part, e)
		}
		list[part] = used
	}
	return list
}

// chargeSome tries to charge some partitions in a tick, but only those that have budget.
func chargeSome(t *testing.T, meter *partition.Meter, m *model, now int64, n *numbers) {
	t.Helper()
	for range n.below(2*m.Processors + 1) {
		part, critical := n.below(len(m.Parts)), n.below(2) == 0
		has, e := meter.HasBudget(now, part)
		if e != api.OK {
			t.Fatalf("HasBudget(%d, %d): %v", now, part, e)
		}
		if has && meter.Charge(now, part, critical) == api.OK {
			m.charges = append(m.charges, made{now, part, critical})
		}
	}
}

// With charges only where there is budget, no partition has more than its budget and Processors - 1 in any window.
func TestBudgetIsKept(t *testing.T) {
	for i, c := range configs() {
		meter, m, n := meterWith(t, c), &model{Config: c}, numbers(i)
		for now := range int64(3 * min(c.Window, 100)) {
			chargeSome(t, meter, m, now, &n)
			for part, used := range usedOf(t, meter, now, len(c.Parts)) {
				most := m.budget(part) + int64(c.Processors) - 1
				whole := m.sum(now-int64(c.Window)+1, now, func(x made) bool { return x.part == part })
				if used > most || whole > most {
					t.Fatalf("%v: at %d partition %d has used %d, and %d with the tick now, of at most %d", c, now, part, used, whole, most)
				}
			}
		}
	}
}

// However they are charged, all partitions together use at most all ticks of the window.
func TestSumOfTheUsedTimes(t *testing.T) {
	for i, c := range configs() {
		meter, n := meterWith(t, c), numbers(i)
		for now := range int64(c.Window + 20) {
			sum := int64(0)
			for _, used := range usedOf(t, meter, now, len(c.Parts)) {
				sum += used
			}
			// Each processor is charged in each tick, so that of the ticks that count none is missing.
			if want := min(now, int64(c.Window)-1) * int64(c.Processors); sum != want || sum > int64(c.Window*c.Processors) {
				t.Fatalf("%v: at %d all have used %d; want %d", c, now, sum, want)
			}
			for range c.Processors {
				charge(t, meter, n.below(len(c.Parts)), now)
			}
			expectCharge(t, meter, now, 0, false, api.ErrLimit)
		}
	}
}

// order returns the comparisons of all partitions with each other.
func order(t *testing.T, meter *partition.Meter, now int64, parts int) [][]int {
	t.Helper()
	table := make([][]int, parts)
	for a := range table {
		for b := range parts {
			c, e := meter.Compare(now, a, b)
			if e != api.OK || c < -1 || c > 1 {
				t.Fatalf("Compare(%d, %d, %d) = %d, %v", now, a, b, c, e)
			}
			table[a] = append(table[a], c)
		}
	}
	return table
}

// Any two partitions are compared, and what is not behind another one is not behind what that one precedes.
func TestCompareIsATotalPreorder(t *testing.T) {
	for i, c := range configs() {
		meter, n := meterWith(t, c), numbers(i)
		for now := range int64(200) {
			table := order(t, meter, now, len(c.Parts))
			for a := range table {
				for b := range table {
					if table[a][b] != -table[b][a] {
						t.Fatalf("%v: at %d %d and %d are compared as %v", c, now, a, b, table)
					}
					for third := range table {
						if table[a][b] <= 0 && table[b][third] <= 0 && table[a][third] != min(table[a][b], table[b][third]) {
							t.Fatalf("%v: at %d %d, %d and %d are compared as %v", c, now, a, b, third, table)
						}
					}
				}
			}
			for range n.below(c.Processors + 1) {
				charge(t, meter, n.below(len(c.Parts)), now)
			}
		}
	}
}

// busiest returns the partition that is charged if all of them always have something to do: of those that have budget the first in the usage order.
func busiest(t *testing.T, meter *partition.Meter, now int64, parts int) int {
	t.Helper()
	best := -1
	for part := range parts {
		has, e := meter.HasBudget(now, part)
		if e != api.OK {
			t.Fatalf("HasBudget(%d, %d): %v", now, part, e)
		}
		if !has {
			continue
		}
		if best < 0 {
			best = part
		} else if c, _ := meter.Compare(now, part, best); c < 0 {
			best = part
		}
	}
	return best
}

// If the budgets add up to the window, each partition gets exactly its budget in every window.
func TestExactlyTheBudgetInEveryWindow(t *testing.T) {
	for _, c := range []partition.Config{
		configOf(4, 1, part{50, 0}, part{50, 0}),
		configOf(10, 1, part{70, 0}, part{30, 0}),
		configOf(20, 1, part{5, 0}, part{0, 0}, part{35, 0}, part{60, 0}),
		configOf(100, 1, shares(8)...),
	} {
		meter, m := meterWith(t, c), &model{Config: c}
		for now := range int64(4 * c.Window) {
			part := busiest(t, meter, now, len(c.Parts))
			if part < 0 {
				t.Fatalf("%v: at %d nobody has budget", c, now)
			}
			charge(t, meter, part, now)
			m.charges = append(m.charges, made{now, part, false})
			if now < int64(c.Window)-1 {
				continue
			}
			got := make([]int64, len(c.Parts))
			for part := range got {
				got[part] = m.sum(now-int64(c.Window)+1, now, func(x made) bool { return x.part == part }) - m.budget(part)
			}
			if slices.ContainsFunc(got, func(n int64) bool { return n != 0 }) {
				t.Fatalf("%v: in the window up to %d the partitions differ from their budgets by %v", c, now, got)
			}
		}
	}
}
