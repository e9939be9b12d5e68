package ready

import (
	"iter"

	"orpiment/api"
)

// ring links threads to rings. A thread is in at most one ring, so that all rings share the links; those of a thread in no ring have no meaning.
type ring struct {
	after, before [api.MaxThreads]int
}

// alone makes a thread a ring of its own.
func (r *ring) alone(thread int) {
	r.after[thread] = thread
	r.before[thread] = thread
}

// link enters a thread into a ring, before the thread at.
func (r *ring) link(thread, at int) {
	last := r.before[at]
	r.after[last], r.before[thread] = thread, last
	r.after[thread], r.before[at] = at, thread
}

// unlink takes a thread out of its ring.
func (r *ring) unlink(thread int) {
	last, next := r.before[thread], r.after[thread]
	r.after[last] = next
	r.before[next] = last
}

// around visits each thread of a ring once, beginning with the thread first.
func (r *ring) around(first int) iter.Seq[int] {
	return func(yield func(int) bool) {
		thread := first
		for yield(thread) {
			thread = r.after[thread]
			if thread == first {
				return
			}
		}
	}
}
