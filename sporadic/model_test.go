package sporadic_test

import (
	"testing"

	"orpiment/api"
	"orpiment/sporadic"
)

// model is a server that goes through the times one by one, and keeps all the ticks of its chunk.
type model struct {
	sporadic.Params
	budget    int64
	pending   []due
	chunk     []int64 // the ticks of the chunk that has not ended
	successes []int64 // the ticks of all runs
	told      int64
}

func modelOf(p sporadic.Params) *model { return &model{Params: p, budget: p.Budget} }

func (m *model) tell(now int64) {
	for time := m.told; time <= now; time++ {
		if n := len(m.chunk); n > 0 && time > m.chunk[n-1]+1 {
			m.end()
		}
		for len(m.pending) > 0 && m.pending[0].Time <= time {
			m.budget += m.pending[0].Amount
			m.pending = m.pending[1:]
		}
	}
	m.told = now
}

func (m *model) end() {
	n := len(m.chunk)
	time, amount := m.chunk[n-1]+1+m.Period, int64(n)
	m.chunk = nil
	if len(m.pending) < m.Pending {
		m.pending = append(m.pending, due{Time: time, Amount: amount})
		return
	}
	last := m.pending[m.Pending-1]
	m.pending = append(m.pending[:m.Pending-1:m.Pending-1], due{Time: max(time, last.Time), Amount: amount + last.Amount})
}

func (m *model) error(now int64) api.Errno {
	switch {
	case now < 0 || now > api.MaxTime:
		return api.ErrRange
	case now < m.told:
		return api.ErrOrder
	}
	return api.OK
}

func (m *model) run(now int64) api.Errno {
	if e := m.error(now); e != api.OK {
		return e
	}
	if n := len(m.successes); n > 0 && now == m.successes[n-1] {
		return api.ErrOrder
	}
	m.tell(now)
	if m.budget == 0 {
		return api.ErrLimit
	}
	m.budget--
	m.chunk = append(m.chunk, now)
	m.successes = append(m.successes, now)
	if m.budget == 0 {
		m.end()
	}
	return api.OK
}

func (m *model) ask(now int64) (int64, api.Errno) {
	if e := m.error(now); e != api.OK {
		return 0, e
	}
	m.tell(now)
	return m.budget, api.OK
}

func (m *model) priority(now int64, normal int) (int, api.Errno) {
	if normal < 0 || normal > api.MaxPriority {
		return 0, api.ErrRange
	}
	budget, e := m.ask(now)
	switch {
	case e != api.OK:
		return 0, e
	case budget > 0 || normal < m.Low:
		return normal, api.OK
	}
	return m.Low, api.OK
}

// numbers is a sequence of numbers that looks random and is the same in each run.
type numbers uint32

func (n *numbers) below(end int) int {
	*n = *n*1664525 + 1013904223
	return int(*n>>8) % end
}

// params has servers of all shapes: much and little budget, many and few pending replenishments.
func params() []sporadic.Params {
	return []sporadic.Params{
		{Budget: 1, Period: 1, Pending: 1, Low: 0},
		{Budget: 1, Period: 7, Pending: 3, Low: 10},
		{Budget: 2, Period: 5, Pending: 4, Low: 255},
		{Budget: 5, Period: 5, Pending: 2, Low: 10},
		{Budget: 6, Period: 10, Pending: 1, Low: 0},
		{Budget: 6, Period: 10, Pending: 2, Low: 0},
		{Budget: 6, Period: 10, Pending: 3, Low: 10},
		{Budget: 9, Period: 12, Pending: 2, Low: 10},
		{Budget: 12, Period: 15, Pending: 5, Low: 10},
		{Budget: 50, Period: 80, Pending: 7, Low: 100},
		{Budget: 50, Period: 130, Pending: 32, Low: 100},
	}
}

// step makes one call of the server and of the model, and checks that both have the same result.
func step(t *testing.T, s *sporadic.Server, m *model, n *numbers) {
	t.Helper()
	now := m.told
	switch n.below(12) {
	case 0: // out of order, or before all times
		now -= int64(n.below(4))
	case 1:
		now += int64(n.below(int(m.Period) + 3))
	case 2, 3, 4:
		now += int64(n.below(4))
	default:
		now++
	}
	if n.below(60) == 0 {
		now = api.MaxTime + 1
	}
	switch n.below(5) {
	case 0:
		want, wantError := m.ask(now)
		if got, e := s.Budget(now); got != want || e != wantError {
			t.Fatalf("Budget(%d) = %d, %v; want %d, %v", now, got, e, want, wantError)
		}
	case 1:
		normal := n.below(22)*13 - 5
		want, wantError := m.priority(now, normal)
		if got, e := s.Priority(now, normal); got != want || e != wantError {
			t.Fatalf("Priority(%d, %d) = %d, %v; want %d, %v", now, normal, got, e, want, wantError)
		}
	default:
		want := m.run(now)
		if e := s.Run(now); e != want {
			t.Fatalf("Run(%d): %v; want %v", now, e, want)
		}
	}
	expectPending(t, s, m.pending...)
}

// P3.1 to P3.3: a server that is asked now and then is one that goes through all times.
func TestServerIsItsModel(t *testing.T) {
	for i, p := range params() {
		for seed := range 5 {
			s, m, n := serverWith(t, p), modelOf(p), numbers(10*i+seed)
			for range 2000 {
				step(t, s, m, &n)
				if t.Failed() {
					t.Fatalf("%v, seed %d", p, seed)
				}
			}
			if len(m.successes) < 100 {
				t.Fatalf("%v: only %d runs", p, len(m.successes))
			}
		}
	}
}

// P3.4

// Nothing of the budget is lost or gained: what is left, pending and in the chunk adds up to it.
func TestSumIsTheBudget(t *testing.T) {
	for i, p := range params() {
		s, m, n := serverWith(t, p), modelOf(p), numbers(i)
		for range 2000 {
			step(t, s, m, &n)
			sum, e := s.Budget(m.told)
			m.tell(m.told)
			for _, x := range s.Replenishments() {
				sum += x.Amount
			}
			if sum += int64(len(m.chunk)); sum != p.Budget || e != api.OK {
				t.Fatalf("%v: the sum at %d is %d, %v", p, m.told, sum, e)
			}
		}
	}
}

// runs returns the ticks in which a server runs that is tried in some ticks; it is asked for its budget as often as ask says.
func runs(t *testing.T, p sporadic.Params, tries []int64, ask func(now, next int64) []int64) []int64 {
	t.Helper()
	s := serverWith(t, p)
	var ran []int64
	last := int64(0)
	for _, now := range tries {
		for _, time := range ask(last, now) {
			if _, e := s.Budget(time); e != api.OK {
				t.Fatalf("%v: Budget(%d): %v", p, time, e)
			}
		}
		if s.Run(now) == api.OK {
			ran = append(ran, now)
		}
		last = now
	}
	return ran
}

func never(int64, int64) []int64 { return nil }

// always asks at each time between two tries, both of them included.
func always(last, next int64) []int64 {
	var times []int64
	for time := last; time <= next; time++ {
		times = append(times, time)
	}
	return times
}

// tries returns ticks with runs and gaps of many lengths.
func tries(seed int) []int64 {
	n := numbers(seed)
	var ticks []int64
	now := int64(0)
	for range 300 {
		for range 1 + n.below(6) {
			ticks = append(ticks, now)
			now++
		}
		now += int64(n.below(1 + n.below(20)))
	}
	return ticks
}

// consecutive returns the ticks from 0 on: the thread runs whenever it can.
func consecutive(ticks int) []int64 {
	list := make([]int64, ticks)
	for i := range list {
		list[i] = int64(i)
	}
	return list
}

func TestAskingChangesNoRun(t *testing.T) {
	for i, p := range params() {
		list := tries(i)
		want := runs(t, p, list, never)
		sometimes := numbers(i)
		for k, ask := range []func(int64, int64) []int64{
			always,
			func(last, next int64) []int64 { return []int64{last, (last + next) / 2, (last + next) / 2} },
			func(last, next int64) []int64 { return []int64{last + int64(sometimes.below(int(next-last)+1))} },
			func(last, next int64) []int64 { return []int64{next} },
		} {
			got := runs(t, p, list, ask)
			if len(got) != len(want) {
				t.Errorf("%v, way %d: %d runs; want %d", p, k, len(got), len(want))
				continue
			}
			for j := range got {
				if got[j] != want[j] {
					t.Errorf("%v, way %d: run %d at %d; want %d", p, k, j, got[j], want[j])
					break
				}
			}
		}
	}
}

// Of the ticks of any period at most as many are run as the budget says.
func TestAtMostTheBudgetInAPeriod(t *testing.T) {
	for i, p := range params() {
		for k, list := range [][]int64{tries(i), tries(i + 100), consecutive(2000)} {
			ran := runs(t, p, list, never)
			if int64(len(ran)) <= p.Budget {
				t.Fatalf("%v, list %d: only %d runs", p, k, len(ran))
			}
			for j := range len(ran) - int(p.Budget) {
				if ran[j+int(p.Budget)]-ran[j] < p.Period {
					t.Fatalf("%v, list %d: too many runs from %d to %d", p, k, ran[j], ran[j+int(p.Budget)])
				}
			}
		}
	}
}

// A period behind its last tick a server has its full budget again, and keeps it.
func TestFullBudgetBehindAPeriod(t *testing.T) {
	for i, p := range params() {
		for stop := 1; stop < 200; stop += 7 {
			for _, later := range []int64{0, 1, 1000} {
				s, last := serverWith(t, p), int64(0)
				for _, now := range tries(i)[:stop] {
					if s.Run(now) == api.OK {
						last = now
					}
				}
				// The tries behind the last run tell times too, which may be greater than the one in question.
				told := tries(i)[stop-1]
				expectBudget(t, s, max(told, last+1+p.Period+later), p.Budget)
				expectPending(t, s)
			}
		}
	}
}
