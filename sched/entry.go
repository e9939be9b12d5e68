package sched

import "orpiment/sporadic"

// The queue of layer 2 has a list for each priority. The scheduler's queue is a single list: which of its threads precedes depends on the time, and the ranking finds it. So all threads are put into the list of one priority, with one mask.
const (
	onlyPriority = 0
	onlyMask     = 1
)

// entry is a thread and its sporadic server, which is nil if its policy is another one.
type entry struct {
	Thread
	server *sporadic.Server
}

// newEntry returns the entry of a blocked thread that did not run yet.
func newEntry(number, priority int, p Params) *entry {
	t := &entry{Thread: Thread{Number: number, Priority: priority, Last: never}}
	t.setParams(p)
	return t
}

// setParams gives valid parameters to a thread, and what begins anew with them.
func (t *entry) setParams(p Params) {
	t.Params = p
	t.refill()
	t.server = nil
	if p.Policy == Sporadic {
		t.server = value(sporadic.New(p.Server))
	}
}

// refill gives the full slice to a thread; without time slices that is 0, like the rest of it.
func (t *entry) refill() { t.Left = t.Params.Slice }

// currentPriority returns the priority that a thread has at a time.
func (t *entry) currentPriority(now int64) int {
	if t.server == nil {
		return t.Priority
	}
	return value(t.server.Priority(now, t.Priority))
}

// enter puts a thread at the back of the queue.
func (s *Scheduler) enter(t *entry) { must(s.queue.Add(t.Number, onlyPriority, onlyMask, false)) }

// leave takes a thread out of the queue.
func (s *Scheduler) leave(t *entry) { must(s.queue.Remove(t.Number)) }

// moveBack moves a ready thread to the back of the queue.
func (s *Scheduler) moveBack(t *entry) {
	s.leave(t)
	s.enter(t)
}

// giveWay moves a ready thread to the back of the queue, where it has its full slice before it.
func (s *Scheduler) giveWay(t *entry) {
	s.moveBack(t)
	t.refill()
}
