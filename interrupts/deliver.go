package interrupts

import "orpiment/api"

// Delivery is an interrupt that is delivered to an attachment.
type Delivery struct {
	Attachment, Line, Thread int
	Event                    api.Event
	Wake                     bool // a waiting thread (Event.Conn) becomes ready
}

// stance is what holds of a thread: it waits for an interrupt, or one has come before it waits.
// A thread for which neither holds has none.
type stance int

const (
	waiting stance = iota + 1
	signaled
)

// Raise makes a line pending.
func (c *Controller) Raise(line int) (bool, api.Errno) {
	if e := c.checkLine(line); e != api.OK {
		return false, e
	}
	before := c.lines[line].pending
	c.lines[line].pending = true
	return before, api.OK
}

// Deliver delivers all lines that can be delivered.
func (c *Controller) Deliver() []Delivery {
	if c == nil {
		return nil
	}
	// A delivery masks only its own line, so that each line is still as it was at the call when its turn comes.
	var out []Delivery
	for n := range c.lines {
		if c.lines[n].pending && c.sum(n) == 0 {
			out = append(out, c.deliverLine(n)...)
		}
	}
	return out
}

// Spurious returns the number of spurious interrupts.
func (c *Controller) Spurious(line int) (int, api.Errno) {
	if e := c.checkLine(line); e != api.OK {
		return 0, e
	}
	return c.lines[line].spurious, api.OK
}

// Wait lets a thread wait for an interrupt.
func (c *Controller) Wait(thread int) (bool, api.Errno) {
	if !c.isMade() {
		return false, api.ErrState
	}
	if !isThread(thread) {
		return false, api.ErrRange
	}
	switch c.threads[thread] {
	case waiting:
		return false, api.ErrState
	case signaled:
		delete(c.threads, thread)
		return false, api.OK
	}
	c.threads[thread] = waiting
	return true, api.OK
}

// Cancel ends a thread's waiting.
func (c *Controller) Cancel(thread int) bool {
	if c == nil || c.threads[thread] != waiting {
		return false
	}
	delete(c.threads, thread)
	return true
}

// Drop removes everything of a thread.
func (c *Controller) Drop(thread int) int {
	if c == nil {
		return 0
	}
	delete(c.threads, thread)
	n := 0
	for id := range maxAttached {
		if x, found := c.attached[id]; found && x.thread == thread {
			c.remove(id)
			n++
		}
	}
	return n
}

// deliverLine delivers a line that is pending and not masked.
func (c *Controller) deliverLine(n int) []Delivery {
	l := &c.lines[n]
	l.pending = false
	if len(l.order) == 0 {
		l.spurious++
	}
	var out []Delivery
	for _, id := range l.order {
		x := c.attached[id]
		if !x.isHandler() {
			c.counts[counter{n, id}]++
		}
		out = append(out, Delivery{Attachment: id, Line: n, Thread: x.thread, Event: x.Event, Wake: c.wake(x.Event)})
	}
	return out
}

func (a attachment) isHandler() bool { return a.Kind == api.EventNone }

// wake ends the waiting of the thread that an event wakes, or signals it if it does not wait, and reports whether it waited.
func (c *Controller) wake(e api.Event) bool {
	if e.Kind != api.EventWake {
		return false
	}
	if c.Cancel(e.Conn) {
		return true
	}
	c.threads[e.Conn] = signaled
	return false
}
