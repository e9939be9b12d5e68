package timers_test

import (
	"cmp"
	"slices"
	"testing"

	"orpiment/api"
	"orpiment/timers"
)

// numbers is a sequence of numbers that look random, but are the same in each run.
type numbers uint32

func (n *numbers) below(end int) int {
	*n = *n*1664525 + 1013904223
	return int(*n>>8) % end
}

func (n *numbers) time(end int) int64 { return int64(n.below(end)) }

// model is a set of timers that follows the definitions: a list with a place for each number.
type model struct {
	timers [api.MaxObjects]*modelTimer
	clock  int64
}

type modelTimer struct {
	owner int
	event api.Event
	timers.Spec
}

func (m *model) create(owner int, e api.Event) (int, api.Errno) {
	for id, x := range m.timers {
		if x == nil {
			m.timers[id] = &modelTimer{owner: owner, event: e}
			return id, api.OK
		}
	}
	return 0, api.ErrLimit
}

func (m *model) next() (least int64, some bool) {
	for _, x := range m.timers {
		if x != nil && x.First > 0 && (!some || x.First+x.Tolerance < least) {
			least, some = x.First+x.Tolerance, true
		}
	}
	return least, some
}

func (m *model) expire(now int64) ([]fired, api.Errno) {
	if now < m.clock {
		return nil, api.ErrOrder
	}
	m.clock = now
	if least, some := m.next(); !some || least > now {
		return nil, api.OK
	}
	var out []fired
	due := map[int]int64{}
	for id, x := range m.timers {
		if x == nil || x.First == 0 || x.First > now {
			continue
		}
		due[id] = x.First
		overruns := int64(0)
		next := int64(0)
		if x.Interval > 0 {
			for next = x.First + x.Interval; next <= now; next += x.Interval {
				overruns++
			}
		}
		if next > api.MaxTime {
			next = 0
		}
		x.First = next
		out = append(out, fired{Timer: id, Event: x.event, Overruns: overruns})
	}
	slices.SortStableFunc(out, func(a, b fired) int { return cmp.Compare(due[a.Timer], due[b.Timer]) })
	return out, api.OK
}

func (m *model) drop(owner int) (n int) {
	for id, x := range m.timers {
		if x != nil && x.owner == owner {
			m.timers[id] = nil
			n++
		}
	}
	return n
}

func (m *model) list() (out []int) {
	for id, x := range m.timers {
		if x != nil {
			out = append(out, id)
		}
	}
	return out
}

// compared is a set with its model.
type compared struct {
	t     *testing.T
	set   *set
	model *model
	n     *numbers
}

// specification returns one in the neighbourhood of a time.
func (c compared) specification(now int64) timers.Spec {
	s := spec(max(0, now+c.n.time(40)-10), c.n.time(12), c.n.time(10))
	if c.n.below(3) == 0 {
		s.Interval = 0
	}
	if c.n.below(3) == 0 {
		s.Tolerance = 0
	}
	if c.n.below(6) == 0 {
		s.First = 0
	}
	s.First = min(s.First, api.MaxTime)
	return s
}

// change makes one call that changes the timers, and compares its results.
func (c compared) change(now int64) {
	id := c.n.below(12)
	switch owner := c.n.below(4); c.n.below(12) {
	case 0, 1, 2:
		e := pulse(c.n.time(1000))
		want, wantError := c.model.create(owner, e)
		expectCreate(c.t, c.set, owner, e, want, wantError)
	case 3:
		if c.model.timers[id] == nil {
			expectError(c.t, "Delete", c.set.Delete(id), api.ErrBadDescriptor)
			return
		}
		c.model.timers[id] = nil
		expectError(c.t, "Delete", c.set.Delete(id), api.OK)
	case 4:
		if c.n.below(4) == 0 {
			expectDrop(c.t, c.set, owner, c.model.drop(owner))
		}
	default:
		s := c.specification(now)
		x := c.model.timers[id]
		if x == nil {
			expectSet(c.t, c.set, id, s, timers.Spec{}, api.ErrBadDescriptor)
			return
		}
		old := x.Spec
		x.Spec = s
		expectSet(c.t, c.set, id, s, old, api.OK)
	}
}

// look compares what the set and its model hold.
func (c compared) look() {
	if want, some := c.model.next(); some {
		expectNext(c.t, c.set, want)
	} else {
		expectNoNext(c.t, c.set)
	}
	expectList(c.t, c.set, c.model.list()...)
	for _, id := range c.model.list() {
		expectGet(c.t, c.set, id, c.model.timers[id].Spec, api.OK)
	}
}

// TestModel compares the timers with those of a model, at the first ticks and at the last ones.
func TestModel(t *testing.T) {
	for _, begin := range []int64{0, api.MaxTime - 150} {
		for seed := range numbers(60) {
			n := seed
			c := compared{t, timers.New(), &model{}, &n}
			c.set.Expire(begin)
			c.model.clock = begin
			for now := begin; now <= api.MaxTime && now < begin+200; now += n.time(8) {
				for range n.below(8) {
					c.change(now)
				}
				at := max(0, now-n.time(20)/18)
				want, wantError := c.model.expire(at)
				if got, e := c.set.Expire(at); !slices.Equal(got, want) || e != wantError {
					t.Errorf("Expire(%d) = %v, %v; want %v, %v", at, got, e, want, wantError)
				}
				c.look()
				if t.Failed() {
					t.Fatalf("seed %d, begin %d, tick %d", seed, begin, now)
				}
			}
		}
	}
}

// some returns specifications of armed timers.
func (n *numbers) some(count, tolerance int) []timers.Spec {
	var out []timers.Spec
	for range count {
		s := spec(n.time(60)+1, n.time(20), 0)
		if tolerance > 0 {
			s.Tolerance = n.time(tolerance)
		}
		out = append(out, s)
	}
	return out
}

// get returns the specification of a timer that is there.
func get(t *testing.T, s *set, id int) timers.Spec {
	t.Helper()
	got, e := s.Get(id)
	expectError(t, "Get", e, api.OK)
	return got
}

// specs returns the specifications of the first timers.
func specs(t *testing.T, s *set, count int) (out []timers.Spec) {
	t.Helper()
	for id := range count {
		out = append(out, get(t, s, id))
	}
	return out
}

// TestDeadlines: P7.3, no timer fires before its First, and none after its deadline if Expire is called at each time that Next returns.
func TestDeadlines(t *testing.T) {
	for seed := range numbers(100) {
		n := seed
		l := n.some(8, 30)
		s := owned(t, l...)
		for now, some := s.Next(); some && now < 500; now, some = s.Next() {
			before := specs(t, s, len(l))
			for _, x := range before {
				if x.First > 0 && now > x.First+x.Tolerance {
					t.Fatalf("seed %d: the deadline of %v has passed at %d", seed, x, now)
				}
			}
			got, e := s.Expire(now)
			if len(got) == 0 || e != api.OK {
				t.Fatalf("seed %d: Expire(%d) = %v, %v at the expiry time", seed, now, got, e)
			}
			for _, f := range got {
				if x := before[f.Timer]; x.First == 0 || now < x.First || now > x.First+x.Tolerance {
					t.Fatalf("seed %d: %v fires at %d", seed, x, now)
				}
			}
		}
	}
}

// TestAfterExpire: P7.3, after Expire every armed timer has First > now, or the expiry time exceeds now.
func TestAfterExpire(t *testing.T) {
	for seed := range numbers(100) {
		n := seed
		l := n.some(8, 30)
		s := owned(t, l...)
		for now := int64(0); now < 200; now += 1 + n.time(9) {
			_, e := s.Expire(now)
			expectError(t, "Expire", e, api.OK)
			if next, some := s.Next(); some && next > now {
				continue
			}
			for _, x := range specs(t, s, len(l)) {
				if x.First != 0 && x.First <= now {
					t.Fatalf("seed %d: %v at %d", seed, x, now)
				}
			}
		}
	}
}

// TestNoTolerance: P7.3, with tolerance 0 every timer fires at the first call at which it is due.
func TestNoTolerance(t *testing.T) {
	for seed := range numbers(100) {
		n := seed
		l := n.some(8, 0)
		s := owned(t, l...)
		for now := int64(0); now < 200; now += 1 + n.time(9) {
			var due []int
			for id, x := range specs(t, s, len(l)) {
				if x.First > 0 && x.First <= now {
					due = append(due, id)
				}
			}
			got, _ := s.Expire(now)
			var ids []int
			for _, f := range got {
				ids = append(ids, f.Timer)
			}
			if slices.Sort(ids); !slices.Equal(ids, due) {
				t.Fatalf("seed %d: at %d %v fire; want %v", seed, now, ids, due)
			}
		}
	}
}

// TestPeriods: P7.3, when a timer with an interval fires, it has fired, together with its overruns, once for each period that has begun; the other timers have no influence on its First.
func TestPeriods(t *testing.T) {
	for seed := range numbers(100) {
		n := seed
		l := n.some(8, 30)
		s := owned(t, l...)
		count := make([]int64, len(l))
		for now := int64(0); now < 300; now += 1 + n.time(9) {
			got, _ := s.Expire(now)
			for _, f := range got {
				count[f.Timer] += 1 + f.Overruns
				x := l[f.Timer]
				want, first := int64(1), int64(0)
				if x.Interval > 0 {
					want = (now-x.First)/x.Interval + 1
					first = x.First + want*x.Interval
				}
				if count[f.Timer] != want {
					t.Fatalf("seed %d: %v has fired %d times at %d; want %d", seed, x, count[f.Timer], now, want)
				}
				expectGet(t, s, f.Timer, spec(first, x.Interval, x.Tolerance), api.OK)
			}
		}
	}
}
