package timers_test

import (
	"math"
	"slices"
	"testing"

	"orpiment/api"
	"orpiment/timers"
)

type (
	set   = timers.Timers
	fired = timers.Fired
)

var (
	wrongOwners = []int{-1, -2, api.MaxProcesses, 1000, math.MaxInt, math.MinInt}
	wrongKinds  = []int{api.EventNone, api.EventKinds, -1, 100, math.MaxInt, math.MinInt}
	wrongTimes  = []int64{-1, -2, api.MaxTime + 1, 1 << 41, math.MaxInt64, math.MinInt64}
)

// spec returns a specification.
func spec(first, interval, tolerance int64) timers.Spec {
	return timers.Spec{First: first, Interval: interval, Tolerance: tolerance}
}

// pulse returns an event that is told from others by its value.
func pulse(value int64) api.Event {
	return api.Event{Kind: api.EventPulse, Conn: 3, Priority: 20, Code: 7, Value: value}
}

func expectError(t *testing.T, call string, got, want api.Errno) {
	t.Helper()
	if got != want {
		t.Errorf("%s: %v; want %v", call, got, want)
	}
}

func expectCreate(t *testing.T, s *set, owner int, e api.Event, want int, wantError api.Errno) {
	t.Helper()
	if id, code := s.Create(owner, e); id != want || code != wantError {
		t.Errorf("Create(%d, %v) = %d, %v; want %d, %v", owner, e, id, code, want, wantError)
	}
}

func expectSet(t *testing.T, s *set, id int, given, want timers.Spec, wantError api.Errno) {
	t.Helper()
	if old, e := s.Set(id, given); old != want || e != wantError {
		t.Errorf("Set(%d, %v) = %v, %v; want %v, %v", id, given, old, e, want, wantError)
	}
}

func expectGet(t *testing.T, s *set, id int, want timers.Spec, wantError api.Errno) {
	t.Helper()
	if got, e := s.Get(id); got != want || e != wantError {
		t.Errorf("Get(%d) = %v, %v; want %v, %v", id, got, e, want, wantError)
	}
}

func expectDrop(t *testing.T, s *set, owner, want int) {
	t.Helper()
	if got := s.Drop(owner); got != want {
		t.Errorf("Drop(%d) = %d; want %d", owner, got, want)
	}
}

func expectNext(t *testing.T, s *set, want int64) {
	t.Helper()
	if got, some := s.Next(); got != want || !some {
		t.Errorf("Next() = %d, %v; want %d, true", got, some, want)
	}
}

func expectNoNext(t *testing.T, s *set) {
	t.Helper()
	if got, some := s.Next(); got != 0 || some {
		t.Errorf("Next() = %d, %v; want 0, false", got, some)
	}
}

func expectList(t *testing.T, s *set, want ...int) {
	t.Helper()
	if got := s.List(); !slices.Equal(got, want) {
		t.Errorf("List() = %v; want %v", got, want)
	}
}

func expectExpire(t *testing.T, s *set, now int64, want ...fired) {
	t.Helper()
	if got, e := s.Expire(now); !slices.Equal(got, want) || e != api.OK {
		t.Errorf("Expire(%d) = %v, %v; want %v", now, got, e, want)
	}
}

func expectExpireError(t *testing.T, s *set, now int64, want api.Errno) {
	t.Helper()
	if got, e := s.Expire(now); len(got) != 0 || e != want {
		t.Errorf("Expire(%d) = %v, %v; want %v", now, got, e, want)
	}
}

// owned returns a set with timers of process 0: timer i has the event pulse(i) and the i-th specification.
func owned(t *testing.T, l ...timers.Spec) *set {
	t.Helper()
	s := timers.New()
	for i, x := range l {
		expectCreate(t, s, 0, pulse(int64(i)), i, api.OK)
		expectSet(t, s, i, x, timers.Spec{}, api.OK)
	}
	return s
}

// one returns a timer of owned that fires.
func one(id int, overruns int64) fired {
	return fired{Timer: id, Event: pulse(int64(id)), Overruns: overruns}
}

func TestExamples(t *testing.T) {
	s := owned(t, spec(100, 0, 50), spec(120, 0, 0), spec(130, 0, 0))
	expectNext(t, s, 120)
	expectExpire(t, s, 120, one(0, 0), one(1, 0))
	expectNext(t, s, 130)

	s = owned(t, spec(10, 5, 0))
	expectExpire(t, s, 23, one(0, 2))
	expectGet(t, s, 0, spec(25, 5, 0), api.OK)
}

// TestCreateLeastFree: P7.1, a new timer has the least number that no timer has, and is disarmed.
func TestCreateLeastFree(t *testing.T) {
	s := timers.New()
	expectList(t, s)
	for id := range 5 {
		expectCreate(t, s, 63-id, pulse(0), id, api.OK)
		expectGet(t, s, id, timers.Spec{}, api.OK)
		expectNoNext(t, s)
	}
	expectError(t, "Delete(3)", s.Delete(3), api.OK)
	expectError(t, "Delete(1)", s.Delete(1), api.OK)
	expectList(t, s, 0, 2, 4)
	expectCreate(t, s, 0, pulse(0), 1, api.OK)
	expectCreate(t, s, 0, pulse(0), 3, api.OK)
	expectCreate(t, s, 0, pulse(0), 5, api.OK)
	expectError(t, "Delete(0)", s.Delete(0), api.OK)
	expectCreate(t, s, 0, pulse(0), 0, api.OK)
	expectList(t, s, 0, 1, 2, 3, 4, 5)
}

// TestNumberIsNew: P7.1, a timer with the number of one that was removed keeps nothing of that one.
func TestNumberIsNew(t *testing.T) {
	s := owned(t, spec(10, 20, 30))
	expectError(t, "Delete(0)", s.Delete(0), api.OK)
	expectCreate(t, s, 1, pulse(77), 0, api.OK)
	expectGet(t, s, 0, timers.Spec{}, api.OK)
	expectNoNext(t, s)
	expectSet(t, s, 0, spec(1, 0, 0), timers.Spec{}, api.OK)
	expectDrop(t, s, 0, 0)
	expectExpire(t, s, 1, fired{Timer: 0, Event: pulse(77)})
}

// TestSetAndGet: P7.1, Set replaces the specification and returns the old one, Get returns it.
func TestSetAndGet(t *testing.T) {
	s := owned(t, spec(1, 2, 3), spec(4, 5, 6))
	expectGet(t, s, 0, spec(1, 2, 3), api.OK)
	expectSet(t, s, 0, spec(7, 0, 0), spec(1, 2, 3), api.OK)
	expectGet(t, s, 0, spec(7, 0, 0), api.OK)
	expectGet(t, s, 1, spec(4, 5, 6), api.OK)
	expectSet(t, s, 0, timers.Spec{}, spec(7, 0, 0), api.OK)
	expectGet(t, s, 0, timers.Spec{}, api.OK)
	expectNext(t, s, 10)
	greatest := spec(api.MaxTime, api.MaxTime, api.MaxTime)
	expectSet(t, s, 1, greatest, spec(4, 5, 6), api.OK)
	expectGet(t, s, 1, greatest, api.OK)
	expectNext(t, s, 2*api.MaxTime)
}

// TestDisarmedKeepsTheRest: P7.1, First alone tells whether a timer is armed; the rest of a disarmed timer is kept as it was set.
func TestDisarmedKeepsTheRest(t *testing.T) {
	s := owned(t, spec(0, 5, 9))
	expectNoNext(t, s)
	expectExpire(t, s, 100)
	expectGet(t, s, 0, spec(0, 5, 9), api.OK)
}

// TestDelete: P7.1, a timer that was removed is not there, and does not fire.
func TestDelete(t *testing.T) {
	s := owned(t, spec(1, 0, 0), spec(2, 0, 0), spec(3, 0, 0))
	expectError(t, "Delete(0)", s.Delete(0), api.OK)
	expectError(t, "Delete(0)", s.Delete(0), api.ErrBadDescriptor)
	expectGet(t, s, 0, timers.Spec{}, api.ErrBadDescriptor)
	expectList(t, s, 1, 2)
	expectNext(t, s, 2)
	expectExpire(t, s, 9, one(1, 0), one(2, 0))
}

// TestDrop: P7.1, Drop removes the timers of an owner, and only those.
func TestDrop(t *testing.T) {
	s := timers.New()
	for id, owner := range []int{0, 63, 5, 63, 0, 63} {
		expectCreate(t, s, owner, pulse(int64(id)), id, api.OK)
		expectSet(t, s, id, spec(10, 0, 0), timers.Spec{}, api.OK)
	}
	for _, owner := range append([]int{1, 62}, wrongOwners...) {
		expectDrop(t, s, owner, 0)
	}
	expectList(t, s, 0, 1, 2, 3, 4, 5)
	expectDrop(t, s, 63, 3)
	expectList(t, s, 0, 2, 4)
	expectDrop(t, s, 63, 0)
	expectExpire(t, s, 10, one(0, 0), one(2, 0), one(4, 0))
	expectDrop(t, s, 0, 2)
	expectDrop(t, s, 5, 1)
	expectList(t, s)
	expectCreate(t, s, 5, pulse(0), 0, api.OK)
}

// TestNextIsLeastDeadline: P7.2, the expiry time is the least deadline, not that of the least First.
func TestNextIsLeastDeadline(t *testing.T) {
	expectNoNext(t, timers.New())
	expectNext(t, owned(t, spec(10, 0, 7)), 17)
	expectNext(t, owned(t, spec(10, 100, 7), spec(12, 0, 3)), 15)
	expectNext(t, owned(t, spec(12, 0, 3), spec(10, 100, 7)), 15)
	expectNext(t, owned(t, spec(0, 1, 1), spec(12, 0, 3), spec(0, 0, 2)), 15)
	expectNext(t, owned(t, spec(api.MaxTime, 0, 0)), api.MaxTime)
	expectNext(t, owned(t, spec(api.MaxTime, 0, 1)), api.MaxTime+1)
	expectNext(t, owned(t, spec(1, 0, 0)), 1)
}

// TestExpireTogether: P7.2, nothing fires before the expiry time; at it everything that is due does.
func TestExpireTogether(t *testing.T) {
	s := owned(t, spec(100, 0, 50), spec(110, 0, 20), spec(130, 0, 9), spec(131, 0, 0))
	for _, now := range []int64{0, 99, 100, 110, 129} {
		expectExpire(t, s, now)
		expectNext(t, s, 130)
	}
	expectExpire(t, s, 130, one(0, 0), one(1, 0), one(2, 0))
	expectExpire(t, s, 130)
	expectNext(t, s, 131)
	expectExpire(t, s, 131, one(3, 0))
	expectNoNext(t, s)
	expectExpire(t, s, api.MaxTime)
}

// TestExpireOrder: P7.2, timers fire in increasing order of First, then of the numbers, whatever their deadlines are.
func TestExpireOrder(t *testing.T) {
	s := owned(t, spec(30, 0, 0), spec(20, 0, 9), spec(10, 0, 90), spec(20, 7, 0), spec(10, 0, 0), spec(40, 0, 0), spec(20, 0, 5), spec(0, 3, 3))
	expectExpire(t, s, 39, one(2, 0), one(4, 0), one(1, 0), one(3, 2), one(6, 0), one(0, 0))
	expectGet(t, s, 3, spec(41, 7, 0), api.OK)
}

// TestExpireDisarms: P7.2, a timer without an interval fires once; its First is then 0, and the rest is kept.
func TestExpireDisarms(t *testing.T) {
	s := owned(t, spec(10, 0, 5))
	expectExpire(t, s, 100, one(0, 0))
	expectGet(t, s, 0, spec(0, 0, 5), api.OK)
	expectNoNext(t, s)
	expectExpire(t, s, 200)
	expectSet(t, s, 0, spec(150, 0, 0), spec(0, 0, 5), api.OK)
	expectExpire(t, s, 200, one(0, 0))
}

// TestExpirePeriods: P7.2, the overruns and the next First of a timer with an interval.
func TestExpirePeriods(t *testing.T) {
	cases := []struct{ now, overruns, first int64 }{
		{10, 0, 15}, {11, 0, 15}, {14, 0, 15}, {15, 1, 20}, {19, 1, 20}, {20, 2, 25}, {23, 2, 25}, {1000009, 199999, 1000010}, {1000010, 200000, 1000015},
	}
	for _, c := range cases {
		s := owned(t, spec(10, 5, 0))
		expectExpire(t, s, c.now, one(0, c.overruns))
		expectGet(t, s, 0, spec(c.first, 5, 0), api.OK)
		expectNext(t, s, c.first)
	}
	s := owned(t, spec(10, 5, 2))
	expectExpire(t, s, 11)
	expectExpire(t, s, 12, one(0, 0))
	expectGet(t, s, 0, spec(15, 5, 2), api.OK)
	expectExpire(t, s, 30, one(0, 3))
	expectNext(t, s, 37)
}

// TestExpireAtTheEnd: P7.2, a timer whose next First would exceed api.MaxTime is disarmed.
func TestExpireAtTheEnd(t *testing.T) {
	s := owned(t, spec(api.MaxTime-2, 2, 0), spec(api.MaxTime-2, 3, 7), spec(1, api.MaxTime, 0), spec(1, api.MaxTime-1, 0), spec(1, 1, 0))
	expectExpire(t, s, api.MaxTime-1, one(2, 0), one(3, 0), one(4, api.MaxTime-2), one(0, 0), one(1, 0))
	for id, want := range []timers.Spec{spec(api.MaxTime, 2, 0), spec(0, 3, 7), spec(0, api.MaxTime, 0), spec(api.MaxTime, api.MaxTime-1, 0), spec(api.MaxTime, 1, 0)} {
		expectGet(t, s, id, want, api.OK)
	}
	expectExpire(t, s, api.MaxTime, one(0, 0), one(3, 0), one(4, 0))
	for id, want := range []timers.Spec{spec(0, 2, 0), spec(0, 3, 7), spec(0, api.MaxTime, 0), spec(0, api.MaxTime-1, 0), spec(0, 1, 0)} {
		expectGet(t, s, id, want, api.OK)
	}
	expectNoNext(t, s)
}

// TestExpireAtZero: P7.2, the time 0 is one at which Expire may be called, but no timer is due at it.
func TestExpireAtZero(t *testing.T) {
	s := owned(t, spec(1, 1, 0), spec(0, 1, 0))
	expectExpire(t, s, 0)
	expectExpire(t, s, 1, one(0, 0))
}

// TestSetBehindClock: P7.2, a timer that is set to a time that has passed fires at the next call.
func TestSetBehindClock(t *testing.T) {
	s := owned(t, spec(50, 0, 0))
	expectExpire(t, s, 50, one(0, 0))
	expectSet(t, s, 0, spec(20, 15, 1), spec(0, 0, 0), api.OK)
	expectNext(t, s, 21)
	expectExpire(t, s, 50, one(0, 2))
	expectGet(t, s, 0, spec(65, 15, 1), api.OK)
}

// TestClock: Expire is not called for a time before the greatest one for which it was called without an error; the errors keep the clock.
func TestClock(t *testing.T) {
	s := owned(t, spec(10, 0, 0))
	expectExpire(t, s, 5)
	expectExpireError(t, s, 4, api.ErrOrder)
	expectExpireError(t, s, 0, api.ErrOrder)
	expectExpire(t, s, 5)
	expectExpireError(t, s, api.MaxTime+1, api.ErrRange)
	expectExpire(t, s, 7)
	expectExpireError(t, s, 6, api.ErrOrder)
	expectExpire(t, s, 10, one(0, 0))
	expectExpireError(t, s, 9, api.ErrOrder)
	expectExpire(t, s, api.MaxTime)
	expectExpireError(t, s, api.MaxTime-1, api.ErrOrder)
	for _, now := range wrongTimes {
		expectExpireError(t, s, now, api.ErrRange)
	}
}

// TestBadDescriptor: Set, Get and Delete want a timer, whatever the specification is.
func TestBadDescriptor(t *testing.T) {
	s := owned(t, spec(10, 20, 30), spec(40, 50, 60))
	for _, id := range []int{2, -1, api.MaxObjects, math.MaxInt, math.MinInt} {
		expectSet(t, s, id, spec(1, 2, 3), timers.Spec{}, api.ErrBadDescriptor)
		expectSet(t, s, id, spec(-1, -1, -1), timers.Spec{}, api.ErrBadDescriptor)
		expectGet(t, s, id, timers.Spec{}, api.ErrBadDescriptor)
		expectError(t, "Delete", s.Delete(id), api.ErrBadDescriptor)
	}
	expectList(t, s, 0, 1)
	expectGet(t, s, 0, spec(10, 20, 30), api.OK)
	expectGet(t, s, 1, spec(40, 50, 60), api.OK)
}

// TestSetRange: with a number out of its range Set changes nothing.
func TestSetRange(t *testing.T) {
	s := owned(t, spec(10, 20, 30))
	for _, wrong := range wrongTimes {
		for _, x := range []timers.Spec{spec(wrong, 1, 1), spec(1, wrong, 1), spec(1, 1, wrong), spec(0, wrong, 0), spec(0, 0, wrong)} {
			expectSet(t, s, 0, x, timers.Spec{}, api.ErrRange)
		}
	}
	expectGet(t, s, 0, spec(10, 20, 30), api.OK)
}

// TestCreateErrors: the errors of Create come in the order of the list, and each of them prevents the timer.
func TestCreateErrors(t *testing.T) {
	s := timers.New()
	good := pulse(0)
	changed := func(change func(e *api.Event)) api.Event {
		e := good
		change(&e)
		return e
	}
	for _, owner := range wrongOwners {
		expectCreate(t, s, owner, good, 0, api.ErrRange)
		expectCreate(t, s, owner, api.Event{}, 0, api.ErrRange)
	}
	for _, kind := range wrongKinds {
		expectCreate(t, s, 0, changed(func(e *api.Event) { e.Kind = kind }), 0, api.ErrKind)
		expectCreate(t, s, 0, api.Event{Kind: kind, Conn: -1, Priority: -1, Code: 1000}, 0, api.ErrKind)
	}
	for _, conn := range []int{-1, -2, math.MinInt} {
		expectCreate(t, s, 0, changed(func(e *api.Event) { e.Conn = conn }), 0, api.ErrRange)
	}
	for _, priority := range []int{-1, api.MaxPriority + 1, math.MaxInt, math.MinInt} {
		expectCreate(t, s, 0, changed(func(e *api.Event) { e.Priority = priority }), 0, api.ErrRange)
	}
	for _, code := range []int{-129, 128, math.MaxInt, math.MinInt} {
		expectCreate(t, s, 0, changed(func(e *api.Event) { e.Code = code }), 0, api.ErrRange)
	}
	expectList(t, s)
	expectCreate(t, s, 0, good, 0, api.OK)
}

// TestCreateBorders: every kind of event, with the least and the greatest numbers that are valid.
func TestCreateBorders(t *testing.T) {
	s := timers.New()
	id := 0
	for kind := api.EventPulse; kind <= api.EventWake; kind++ {
		least := api.Event{Kind: kind, Code: -128, Value: math.MinInt64}
		greatest := api.Event{Kind: kind, Conn: math.MaxInt, Priority: api.MaxPriority, Code: 127, Value: math.MaxInt64}
		for _, e := range []api.Event{least, greatest} {
			expectCreate(t, s, api.MaxProcesses-1, e, id, api.OK)
			expectSet(t, s, id, spec(1, 0, 0), timers.Spec{}, api.OK)
			expectExpire(t, s, 1, fired{Timer: id, Event: e})
			id++
		}
	}
}

// TestCreateLimit: there are at most api.MaxObjects timers; the other errors come first.
func TestCreateLimit(t *testing.T) {
	s := timers.New()
	for id := range api.MaxObjects {
		expectCreate(t, s, id%api.MaxProcesses, pulse(int64(id)), id, api.OK)
	}
	expectCreate(t, s, 0, pulse(0), 0, api.ErrLimit)
	expectCreate(t, s, -1, pulse(0), 0, api.ErrRange)
	expectCreate(t, s, 0, api.Event{}, 0, api.ErrKind)
	expectCreate(t, s, 0, api.Event{Kind: api.EventPulse, Conn: -1}, 0, api.ErrRange)
	if n := len(s.List()); n != api.MaxObjects {
		t.Errorf("%d timers; want %d", n, api.MaxObjects)
	}
	expectError(t, "Delete(999)", s.Delete(999), api.OK)
	expectCreate(t, s, 0, pulse(0), 999, api.OK)
	expectCreate(t, s, 0, pulse(0), 0, api.ErrLimit)
}

// TestNil: the methods of a nil pointer return zero values and ErrState, whatever the arguments are.
func TestNil(t *testing.T) {
	for _, s := range []*set{nil, {}} {
		expectCreate(t, s, 0, pulse(0), 0, api.ErrState)
		expectCreate(t, s, -1, api.Event{}, 0, api.ErrState)
		expectSet(t, s, 0, spec(1, 2, 3), timers.Spec{}, api.ErrState)
		expectSet(t, s, -1, spec(-1, -1, -1), timers.Spec{}, api.ErrState)
		expectGet(t, s, 0, timers.Spec{}, api.ErrState)
		expectGet(t, s, -1, timers.Spec{}, api.ErrState)
		expectError(t, "Delete(0)", s.Delete(0), api.ErrState)
		expectError(t, "Delete(-1)", s.Delete(-1), api.ErrState)
		expectDrop(t, s, 0, 0)
		expectDrop(t, s, -1, 0)
		expectNoNext(t, s)
		expectExpireError(t, s, 0, api.ErrState)
		expectExpireError(t, s, -1, api.ErrState)
		expectList(t, s)
	}
}

// TestMemory: results share no memory with the timers, and two sets share nothing.
func TestMemory(t *testing.T) {
	s := owned(t, spec(10, 5, 0), spec(10, 0, 0))
	other := timers.New()
	list := s.List()
	list[0], list[1] = 7, 8
	expectList(t, s, 0, 1)
	got, e := s.Expire(10)
	expectError(t, "Expire(10)", e, api.OK)
	got[0].Timer, got[0].Event, got[0].Overruns = 9, api.Event{}, 9
	expectExpire(t, s, 15, one(0, 0))
	expectList(t, other)
	expectExpire(t, other, 1)
}
