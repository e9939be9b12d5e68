package inherit

import (
	"cmp"
	"slices"

	"orpiment/api"
)

// Change is a thread whose effective priority has changed, with the new one.
type Change struct{ Thread, Priority int }

// Tracker keeps the effective priorities of a graph that changes.
type Tracker struct {
	graph     Graph // with its edges in increasing order
	effective []int
}

// New returns a tracker of a graph without edges.
func New(base []int) (*Tracker, api.Errno) {
	if e := Check(Graph{Base: base}); e != api.OK {
		return nil, e
	}
	// Without edges every effective priority is the base priority.
	return &Tracker{graph: Graph{Base: slices.Clone(base)}, effective: slices.Clone(base)}, api.OK
}

// SetBase changes a base priority.
func (t *Tracker) SetBase(thread, priority int) ([]Change, api.Errno) {
	switch {
	case t == nil:
		return nil, api.ErrState
	case !t.graph.has(thread) || !isPriority(priority):
		return nil, api.ErrRange
	}
	t.graph.Base[thread] = priority
	return t.update(), api.OK
}

// Add adds an edge.
func (t *Tracker) Add(e api.Edge) ([]Change, api.Errno) {
	place, found, code := t.find(e)
	switch {
	case code != api.OK:
		return nil, code
	case found:
		return nil, api.ErrExist
	case len(t.graph.Edges) == maxEdges:
		return nil, api.ErrLimit
	}
	t.graph.Edges = slices.Insert(t.graph.Edges, place, e)
	return t.update(), api.OK
}

// Remove removes an edge.
func (t *Tracker) Remove(e api.Edge) ([]Change, api.Errno) {
	place, found, code := t.find(e)
	switch {
	case code != api.OK:
		return nil, code
	case !found:
		return nil, api.ErrNoEntry
	}
	t.graph.Edges = slices.Delete(t.graph.Edges, place, place+1)
	return t.update(), api.OK
}

// Replace replaces all edges.
func (t *Tracker) Replace(l []api.Edge) ([]Change, api.Errno) {
	if t == nil {
		return nil, api.ErrState
	}
	if e := Check(Graph{Base: t.graph.Base, Edges: l}); e != api.OK {
		return nil, e
	}
	t.graph.Edges = slices.Clone(l)
	slices.SortFunc(t.graph.Edges, compare)
	return t.update(), api.OK
}

// Effective returns the effective priority of a thread.
func (t *Tracker) Effective(thread int) (int, api.Errno) {
	switch {
	case t == nil:
		return 0, api.ErrState
	case !t.graph.has(thread):
		return 0, api.ErrRange
	}
	return t.effective[thread], api.OK
}

// Graph returns the graph.
func (t *Tracker) Graph() Graph {
	if t == nil {
		return Graph{}
	}
	return Graph{Base: slices.Clone(t.graph.Base), Edges: slices.Clone(t.graph.Edges)}
}

// compare compares edges by their waiters, then by their holders.
func compare(a, b api.Edge) int {
	return cmp.Or(cmp.Compare(a.Waiter, b.Waiter), cmp.Compare(a.Holder, b.Holder))
}

// find returns the place of an edge in the list of edges, and whether it is there.
func (t *Tracker) find(e api.Edge) (place int, found bool, code api.Errno) {
	switch {
	case t == nil:
		return 0, false, api.ErrState
	case !t.graph.joins(e):
		return 0, false, api.ErrRange
	}
	place, found = slices.BinarySearchFunc(t.graph.Edges, e, compare)
	return place, found, api.OK
}

// update computes the effective priorities anew, and returns those that have changed.
func (t *Tracker) update() []Change {
	before := t.effective
	t.effective = t.graph.effective()
	var changes []Change
	for thread, priority := range t.effective {
		if priority != before[thread] {
			changes = append(changes, Change{thread, priority})
		}
	}
	return changes
}
