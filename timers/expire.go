package timers

import (
	"slices"

	"orpiment/api"
)

// Next returns the expiry time.
func (t *Timers) Next() (int64, bool) {
	if !t.isMade() {
		return 0, false
	}
	least, some := int64(0), false
	for _, x := range t.numbered {
		if x.spec.isArmed() && (!some || x.spec.deadline() < least) {
			least, some = x.spec.deadline(), true
		}
	}
	return least, some
}

// Expire returns the timers that fire.
func (t *Timers) Expire(now int64) ([]Fired, api.Errno) {
	switch {
	case !t.isMade():
		return nil, api.ErrState
	case !isTime(now):
		return nil, api.ErrRange
	case now < t.clock:
		return nil, api.ErrOrder
	}
	t.clock = now
	// Before the least deadline the timers that are due wait for others, so that they expire together.
	if least, some := t.Next(); !some || least > now {
		return nil, api.OK
	}
	var fired []Fired
	for id, x := range t.armed {
		if x.spec.First > now {
			break
		}
		fired = append(fired, Fired{Timer: id, Event: x.event, Overruns: x.spec.overruns(now)})
		x.spec = x.spec.behind(now)
		t.numbered[id] = x
	}
	return fired, api.OK
}

// armed visits the timers that are armed, in the order in which they fire.
func (t *Timers) armed(yield func(int, timer) bool) {
	var ids []int
	for id, x := range t.numbered {
		if x.spec.isArmed() {
			ids = append(ids, id)
		}
	}
	slices.SortFunc(ids, t.compareDue)
	for _, id := range ids {
		if !yield(id, t.numbered[id]) {
			return
		}
	}
}

func (s Spec) isArmed() bool { return s.First != disarmed }

// deadline returns the tick at which an armed timer fires at the latest.
func (s Spec) deadline() int64 { return s.First + s.Tolerance }

// overruns returns how often a timer would have fired once more until now.
func (s Spec) overruns(now int64) int64 {
	if s.Interval == 0 {
		return 0
	}
	return (now - s.First) / s.Interval
}

// behind returns the specification of a timer that has fired.
func (s Spec) behind(now int64) Spec {
	next := s.First + (s.overruns(now)+1)*s.Interval
	if s.Interval == 0 || next > api.MaxTime {
		next = disarmed
	}
	s.First = next
	return s
}
