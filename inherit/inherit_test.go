package inherit_test

import (
	"math"
	"slices"
	"testing"

	"orpiment/api"
	"orpiment/inherit"
)

const maxEdges = 2000

var (
	wrongThreads    = []int{-1, -2, -256, api.MaxThreads, 1000, math.MaxInt, math.MinInt}
	wrongPriorities = []int{-1, -10, api.MaxPriority + 1, 1000, math.MaxInt, math.MinInt}
)

type (
	edge   = api.Edge
	change = inherit.Change
	graph  = inherit.Graph
)

// to is the edge from a waiter to a holder.
func to(waiter, holder int) edge { return edge{Waiter: waiter, Holder: holder} }

func graphOf(base []int, edges ...edge) graph { return graph{Base: base, Edges: edges} }

// repeated returns a list of equal base priorities.
func repeated(n, priority int) []int { return slices.Repeat([]int{priority}, n) }

// edgesOf returns as many different edges of n threads as asked for, in increasing order.
func edgesOf(n, count int) []edge {
	var list []edge
	for i := range count {
		list = append(list, to(i/n, i%n))
	}
	return list
}

func compareEdges(a, b edge) int {
	if a.Waiter != b.Waiter {
		return a.Waiter - b.Waiter
	}
	return a.Holder - b.Holder
}

// sameGraph compares graphs element by element; nil and empty lists are the same.
func sameGraph(a, b graph) bool {
	return slices.Equal(a.Base, b.Base) && slices.Equal(a.Edges, b.Edges)
}

func expectEffective(t *testing.T, g graph, want ...int) {
	t.Helper()
	if got, e := inherit.Effective(g); !slices.Equal(got, want) || e != api.OK {
		t.Errorf("Effective(%v) = %v, %v; want %v", g, got, e, want)
	}
}

func expectReason(t *testing.T, g graph, thread int, want ...int) {
	t.Helper()
	if got, e := inherit.Reason(g, thread); !slices.Equal(got, want) || e != api.OK {
		t.Errorf("Reason(%v, %d) = %v, %v; want %v", g, thread, got, e, want)
	}
}

func expectCycle(t *testing.T, g graph, want ...int) {
	t.Helper()
	if got, e := inherit.Cycle(g); !slices.Equal(got, want) || e != api.OK {
		t.Errorf("Cycle(%v) = %v, %v; want %v", g, got, e, want)
	}
}

// expectNoList checks that a function has an error and no list.
func expectNoList[T any](t *testing.T, call string, got []T, e, want api.Errno) {
	t.Helper()
	if len(got) != 0 || e != want {
		t.Errorf("%s = %v, %v; want nothing and %v", call, got, e, want)
	}
}

// expectGraphError checks that each function of a graph has the same error.
func expectGraphError(t *testing.T, g graph, want api.Errno) {
	t.Helper()
	if e := inherit.Check(g); e != want {
		t.Errorf("Check of %d threads and %d edges: %v; want %v", len(g.Base), len(g.Edges), e, want)
	}
	list, e := inherit.Effective(g)
	expectNoList(t, "Effective", list, e, want)
	for _, thread := range append(wrongThreads, 0) {
		list, e = inherit.Reason(g, thread)
		expectNoList(t, "Reason", list, e, want)
	}
	list, e = inherit.Cycle(g)
	expectNoList(t, "Cycle", list, e, want)
}

// trackerOf returns a tracker that has got its edges one by one.
func trackerOf(t *testing.T, g graph) *inherit.Tracker {
	t.Helper()
	k, e := inherit.New(g.Base)
	if k == nil || e != api.OK {
		t.Fatalf("New(%v) = %v, %v", g.Base, k, e)
	}
	for _, x := range g.Edges {
		if _, e := k.Add(x); e != api.OK {
			t.Fatalf("Add(%v): %v", x, e)
		}
	}
	return k
}

func expectChanges(t *testing.T, call string, got []change, e api.Errno, want ...change) {
	t.Helper()
	if !slices.Equal(got, want) || e != api.OK {
		t.Errorf("%s = %v, %v; want %v", call, got, e, want)
	}
}

// expectTracker checks the graph of a tracker and its effective priorities.
func expectTracker(t *testing.T, k *inherit.Tracker, g graph) {
	t.Helper()
	if got := k.Graph(); !sameGraph(got, g) {
		t.Errorf("Graph() = %v; want %v", got, g)
	}
	want, _ := inherit.Effective(g)
	for thread := range g.Base {
		if got, e := k.Effective(thread); got != want[thread] || e != api.OK {
			t.Errorf("Effective(%d) = %d, %v; want %d", thread, got, e, want[thread])
		}
	}
}

// The chapter's examples.

func TestFirstExample(t *testing.T) {
	g := graphOf([]int{10, 20, 5}, to(1, 2), to(2, 0))
	expectEffective(t, g, 20, 20, 20)
	expectReason(t, g, 0, 1, 2, 0)
}

func TestSecondExample(t *testing.T) {
	expectCycle(t, graphOf([]int{0, 0}, to(0, 1), to(1, 0)), 0, 1, 0)
}

// The fourth example of the whole document: a server inherits the priority of its client until it replies.
func TestServerOfAClient(t *testing.T) {
	k := trackerOf(t, graphOf([]int{10, 20}))
	changes, e := k.Add(to(1, 0))
	expectChanges(t, "Add", changes, e, change{0, 20})
	changes, e = k.Remove(to(1, 0))
	expectChanges(t, "Remove", changes, e, change{0, 10})
}

// P5.1

func TestCheck(t *testing.T) {
	for _, g := range []graph{
		{},
		graphOf([]int{}, []edge{}...),
		graphOf([]int{0}),
		graphOf([]int{255, 0, 128}),
		graphOf([]int{1}, to(0, 0)),
		graphOf([]int{1, 1}, to(0, 1), to(1, 0), to(1, 1), to(0, 0)), // all different
		graphOf(repeated(256, 255), to(255, 0), to(0, 255)),
		graphOf(repeated(256, 0), edgesOf(256, maxEdges)...),
	} {
		if e := inherit.Check(g); e != api.OK {
			t.Errorf("Check(%v): %v", g, e)
		}
	}
}

func TestCheckErrors(t *testing.T) {
	expectGraphError(t, graphOf(repeated(257, 0)), api.ErrLimit)
	expectGraphError(t, graphOf(repeated(1000, 0)), api.ErrLimit)
	expectGraphError(t, graphOf(repeated(256, 0), edgesOf(256, maxEdges+1)...), api.ErrLimit)
	expectGraphError(t, graphOf(nil, to(0, 0)), api.ErrRange)
	for _, priority := range wrongPriorities {
		expectGraphError(t, graphOf([]int{priority}), api.ErrRange)
		expectGraphError(t, graphOf([]int{0, 255, priority}, to(0, 1)), api.ErrRange)
	}
	for _, thread := range append(wrongThreads, 3) {
		expectGraphError(t, graphOf([]int{1, 2, 3}, to(thread, 0)), api.ErrRange)
		expectGraphError(t, graphOf([]int{1, 2, 3}, to(0, 1), to(2, thread)), api.ErrRange)
		expectGraphError(t, graphOf([]int{1, 2, 3}, to(thread, thread), to(0, 1)), api.ErrRange)
	}
	expectGraphError(t, graphOf([]int{1, 2, 3}, to(0, 1), to(0, 1)), api.ErrTwice)
	expectGraphError(t, graphOf([]int{1, 2, 3}, to(2, 2), to(0, 1), to(1, 0), to(2, 2)), api.ErrTwice)
}

// Each of these graphs has also errors that stand behind its own one.
func TestCheckOrder(t *testing.T) {
	twice := []edge{to(0, 1), to(0, 1)}
	expectGraphError(t, graphOf(repeated(257, -1), to(-1, 0)), api.ErrLimit)
	expectGraphError(t, graphOf(repeated(257, 0), twice...), api.ErrLimit)
	expectGraphError(t, graphOf([]int{1, -1}, slices.Repeat(twice, 1001)...), api.ErrLimit)
	expectGraphError(t, graphOf([]int{1, 2}, append(edgesOf(2, 4), slices.Repeat([]edge{to(0, 9)}, maxEdges)...)...), api.ErrLimit)
	expectGraphError(t, graphOf([]int{1, 256}, twice...), api.ErrRange)
	expectGraphError(t, graphOf([]int{1, 2}, to(0, 2), to(0, 2)), api.ErrRange)
	expectGraphError(t, graphOf([]int{1, 2}, to(0, 2), to(0, 1), to(0, 1)), api.ErrRange)
	// Edges are examined one by one: the first one that has an error decides.
	expectGraphError(t, graphOf([]int{1, 2}, to(0, 1), to(0, 1), to(0, 2)), api.ErrTwice)
}

func TestEffective(t *testing.T) {
	expectEffective(t, graph{})
	expectEffective(t, graphOf([]int{7, 0, 255}), 7, 0, 255)
	expectEffective(t, graphOf([]int{7}, to(0, 0)), 7)
	expectEffective(t, graphOf([]int{10, 20}, to(0, 1)), 10, 20)                                                       // a lesser one is not inherited
	expectEffective(t, graphOf([]int{10, 20}, to(1, 0)), 20, 20)                                                       // a greater one is
	expectEffective(t, graphOf([]int{10, 20, 30}, to(1, 0), to(2, 0)), 30, 20, 30)                                     // the greatest of several
	expectEffective(t, graphOf([]int{10, 20, 30}, to(2, 0), to(1, 0)), 30, 20, 30)                                     // in any order
	expectEffective(t, graphOf([]int{10, 20, 30}, to(2, 0), to(2, 1)), 30, 30, 30)                                     // one for several
	expectEffective(t, graphOf([]int{1, 2, 3, 4, 5}, to(4, 3), to(3, 2), to(2, 1), to(1, 0)), 5, 5, 5, 5, 5)           // along a chain
	expectEffective(t, graphOf([]int{1, 9, 3, 4, 5}, to(1, 0), to(2, 1), to(3, 2), to(4, 3)), 9, 9, 5, 5, 5)           // to its greatest one
	expectEffective(t, graphOf([]int{1, 2, 3, 0}, to(0, 1), to(1, 2), to(2, 0), to(3, 0)), 3, 3, 3, 0)                 // round a cycle
	expectEffective(t, graphOf([]int{1, 2, 3, 8, 0}, to(0, 1), to(1, 2), to(2, 0), to(3, 1), to(1, 4)), 8, 8, 8, 8, 8) // into and out of it
}

// A chain of all threads, with the greatest priority at its beginning, and one that waits for all others.
func TestEffectiveOfManyThreads(t *testing.T) {
	chain := graphOf(repeated(256, 0))
	for i := range 255 {
		chain.Base[i] = i
		chain.Edges = append(chain.Edges, to(i+1, i))
	}
	chain.Base[255] = 255
	expectEffective(t, chain, repeated(256, 255)...)
	star := graphOf(repeated(256, 3))
	star.Base[100] = 200
	for i := range 256 {
		star.Edges = append(star.Edges, to(100, i))
	}
	expectEffective(t, star, repeated(256, 200)...)
}

// P5.2

func TestReason(t *testing.T) {
	g := graphOf([]int{10, 20, 5}, to(1, 2), to(2, 0))
	expectReason(t, g, 1, 1)
	expectReason(t, g, 2, 1, 2)
	expectReason(t, graphOf([]int{7}, to(0, 0)), 0, 0)
	// Its own base priority is the nearest reason.
	expectReason(t, graphOf([]int{9, 9}, to(1, 0)), 0, 0)
	expectReason(t, graphOf([]int{9, 9}, to(0, 1)), 1, 1)
	// The nearest one of several sources, whatever the numbers are.
	expectReason(t, graphOf([]int{0, 9, 0, 9}, to(1, 2), to(2, 0), to(3, 0)), 0, 3, 0)
	// A greater one that is farther away.
	expectReason(t, graphOf([]int{0, 8, 9, 0}, to(1, 0), to(2, 3), to(3, 0)), 0, 2, 3, 0)
	// Of several sources at the same distance the least one.
	expectReason(t, graphOf([]int{0, 9, 9, 9}, to(3, 0), to(2, 0)), 0, 2, 0)
	// Of several ways from the same source that by the least numbers, the first ones first.
	expectReason(t, graphOf([]int{0, 0, 0, 9}, to(3, 2), to(3, 1), to(2, 0), to(1, 0)), 0, 3, 1, 0)
	expectReason(t, graphOf([]int{0, 0, 0, 0, 0, 9}, to(5, 1), to(5, 2), to(1, 4), to(2, 3), to(4, 0), to(3, 0)), 0, 5, 1, 4, 0)
	// The first thread counts more than all the others.
	expectReason(t, graphOf([]int{0, 9, 9, 0, 0}, to(1, 4), to(2, 3), to(4, 0), to(3, 0)), 0, 1, 4, 0)
	// A least next thread that leads nowhere, or the long way round, is no way.
	expectReason(t, graphOf([]int{0, 0, 0, 9}, to(3, 1), to(3, 2), to(2, 0)), 0, 3, 2, 0)
	expectReason(t, graphOf([]int{0, 0, 0, 9}, to(3, 1), to(1, 2), to(3, 2), to(2, 0)), 0, 3, 2, 0)
	// Round a cycle.
	expectReason(t, graphOf([]int{1, 2, 3}, to(0, 1), to(1, 2), to(2, 0)), 1, 2, 0, 1)
}

func TestReasonErrors(t *testing.T) {
	for _, n := range []int{0, 1, 3, 256} {
		g := graphOf(repeated(n, 1))
		for _, thread := range append(wrongThreads, n) {
			list, e := inherit.Reason(g, thread)
			expectNoList(t, "Reason", list, e, api.ErrRange)
		}
	}
	// The errors of the graph precede that of the thread.
	list, e := inherit.Reason(graphOf([]int{1}, to(0, 0), to(0, 0)), 1)
	expectNoList(t, "Reason", list, e, api.ErrTwice)
}

func TestCycle(t *testing.T) {
	expectCycle(t, graphOf([]int{1}, to(0, 0)), 0, 0)
	expectCycle(t, graphOf(repeated(4, 1), to(3, 3), to(2, 2), to(0, 1)), 2, 2)
	// The shortest one, whatever the numbers are.
	expectCycle(t, graphOf(repeated(3, 1), to(0, 1), to(1, 0), to(2, 2)), 2, 2)
	expectCycle(t, graphOf(repeated(5, 1), to(0, 1), to(1, 2), to(2, 0), to(4, 3), to(3, 4)), 3, 4, 3)
	expectCycle(t, graphOf(repeated(5, 1), to(0, 1), to(1, 0), to(2, 3), to(3, 4), to(4, 2)), 0, 1, 0)
	// A cycle begins with the least of its threads.
	expectCycle(t, graphOf(repeated(4, 1), to(3, 1), to(1, 2), to(2, 3)), 1, 2, 3, 1)
	expectCycle(t, graphOf(repeated(4, 1), to(1, 3), to(3, 2), to(2, 1)), 1, 3, 2, 1)
	// Of several cycles of the same length the first one.
	expectCycle(t, graphOf(repeated(4, 1), to(0, 3), to(3, 0), to(1, 2), to(2, 1)), 0, 3, 0)
	expectCycle(t, graphOf(repeated(4, 1), to(0, 3), to(0, 2), to(2, 0), to(3, 0)), 0, 2, 0)
	expectCycle(t, graphOf(repeated(5, 1), to(0, 2), to(0, 1), to(1, 4), to(2, 3), to(3, 0), to(4, 0)), 0, 1, 4, 0)
	// The least next thread may lead to no cycle, or only to a longer one.
	expectCycle(t, graphOf(repeated(4, 1), to(0, 1), to(0, 2), to(2, 0)), 0, 2, 0)
	expectCycle(t, graphOf(repeated(4, 1), to(0, 1), to(1, 2), to(0, 3), to(3, 0), to(2, 0)), 0, 3, 0)
	// Base priorities have no influence.
	expectCycle(t, graphOf([]int{0, 255, 3}, to(2, 1), to(1, 2)), 1, 2, 1)
}

func TestCycleOfManyThreads(t *testing.T) {
	ring := graphOf(repeated(256, 1))
	var want []int
	for i := range 256 {
		ring.Edges = append(ring.Edges, to(i, (i+255)%256))
		want = append(want, (256-i)%256)
	}
	expectCycle(t, ring, append(want, 0)...)
}

func TestNoCycle(t *testing.T) {
	for _, g := range []graph{
		{},
		graphOf([]int{1}),
		graphOf([]int{1, 2}, to(0, 1)),
		graphOf([]int{1, 2, 3}, to(0, 1), to(1, 2), to(0, 2)), // two ways, but none back
		graphOf([]int{1, 2, 3, 4}, to(3, 1), to(3, 2), to(1, 0), to(2, 0), to(3, 0)),
	} {
		list, e := inherit.Cycle(g)
		expectNoList(t, "Cycle", list, e, api.ErrNoEntry)
	}
}

// Arguments are not changed, nor the memory behind their ends, and results share no memory with them.
func TestGraphIsNotChanged(t *testing.T) {
	base, edges := []int{1, 2, 3, 99}, []edge{to(2, 1), to(1, 0), to(0, 2), to(77, 77)}
	g := graph{Base: base[:3], Edges: edges[:3]}
	inherit.Check(g)
	first, _ := inherit.Effective(g)
	inherit.Reason(g, 1)
	inherit.Cycle(g)
	if !slices.Equal(base, []int{1, 2, 3, 99}) || !slices.Equal(edges, []edge{to(2, 1), to(1, 0), to(0, 2), to(77, 77)}) {
		t.Errorf("the graph has become %v, %v", base, edges)
	}
	first[0] = 50
	expectEffective(t, g, 3, 3, 3)
	same := graphOf([]int{5, 6})
	list, _ := inherit.Effective(same)
	list[0] = 9
	if same.Base[0] != 5 {
		t.Errorf("Effective shares memory with its argument")
	}
}

// P5.3

func TestNew(t *testing.T) {
	for _, base := range [][]int{nil, {}, {0}, {255, 0, 7}, repeated(256, 9)} {
		expectTracker(t, trackerOf(t, graphOf(base)), graphOf(base))
	}
}

func TestNewErrors(t *testing.T) {
	expectNone := func(base []int, want api.Errno) {
		if k, e := inherit.New(base); k != nil || e != want {
			t.Errorf("New of %d threads = %v, %v; want %v", len(base), k, e, want)
		}
	}
	expectNone(repeated(257, 0), api.ErrLimit)
	expectNone(repeated(257, -1), api.ErrLimit)
	for _, priority := range wrongPriorities {
		expectNone([]int{priority}, api.ErrRange)
		expectNone([]int{0, 1, priority, 255}, api.ErrRange)
	}
}

func TestSetBase(t *testing.T) {
	k := trackerOf(t, graphOf([]int{10, 20, 5, 0}, to(1, 2), to(2, 0)))
	for _, x := range []struct {
		thread, priority int
		want             []change
	}{
		{1, 30, []change{{0, 30}, {1, 30}, {2, 30}}}, // raised along the chain
		{1, 30, nil},
		{0, 25, nil}, // hidden by what is inherited
		{1, 0, []change{{0, 25}, {1, 0}, {2, 5}}},
		{2, 26, []change{{0, 26}, {2, 26}}},
		{2, 25, []change{{0, 25}, {2, 25}}},
		{2, 0, []change{{2, 0}}},
		{3, 255, []change{{3, 255}}},
		{0, 0, []change{{0, 0}}},
		{3, 0, []change{{3, 0}}},
	} {
		changes, e := k.SetBase(x.thread, x.priority)
		expectChanges(t, "SetBase", changes, e, x.want...)
	}
	expectTracker(t, k, graphOf([]int{0, 0, 0, 0}, to(1, 2), to(2, 0)))
}

func TestAddAndRemove(t *testing.T) {
	k := trackerOf(t, graphOf([]int{10, 20, 5, 1}))
	for _, x := range []struct {
		remove bool
		e      edge
		want   []change
	}{
		{false, to(2, 0), nil},
		{false, to(1, 2), []change{{0, 20}, {2, 20}}},
		{false, to(1, 0), nil},
		{true, to(2, 0), nil}, // the other way is left
		{true, to(1, 2), []change{{2, 5}}},
		{true, to(1, 0), []change{{0, 10}}},
		{false, to(3, 3), nil},
		{false, to(3, 2), nil},
		{false, to(2, 3), []change{{3, 5}}},
		{false, to(0, 3), []change{{2, 10}, {3, 10}}}, // into a cycle
		{true, to(0, 3), []change{{2, 5}, {3, 5}}},    // the cycle does not keep it
		{true, to(2, 3), []change{{3, 1}}},
		{true, to(3, 2), nil},
		{true, to(3, 3), nil},
	} {
		if x.remove {
			changes, e := k.Remove(x.e)
			expectChanges(t, "Remove", changes, e, x.want...)
		} else {
			changes, e := k.Add(x.e)
			expectChanges(t, "Add", changes, e, x.want...)
		}
	}
	expectTracker(t, k, graphOf([]int{10, 20, 5, 1}))
}

func TestReplace(t *testing.T) {
	k := trackerOf(t, graphOf([]int{10, 20, 5}, to(1, 2)))
	changes, e := k.Replace([]edge{to(2, 0), to(1, 0)})
	expectChanges(t, "Replace", changes, e, change{0, 20}, change{2, 5})
	expectTracker(t, k, graphOf([]int{10, 20, 5}, to(1, 0), to(2, 0)))
	changes, e = k.Replace([]edge{to(2, 1), to(2, 0), to(0, 2), to(1, 2), to(1, 1)})
	expectChanges(t, "Replace", changes, e, change{2, 20})
	expectTracker(t, k, graphOf([]int{10, 20, 5}, to(0, 2), to(1, 1), to(1, 2), to(2, 0), to(2, 1)))
	changes, e = k.Replace([]edge{to(1, 2), to(2, 0)})
	expectChanges(t, "Replace", changes, e)
	for _, none := range [][]edge{nil, {}} {
		k = trackerOf(t, graphOf([]int{10, 20, 5}, to(1, 2)))
		changes, e = k.Replace(none)
		expectChanges(t, "Replace", changes, e, change{2, 5})
		expectTracker(t, k, graphOf([]int{10, 20, 5}))
	}
}

func TestReplaceByAllEdges(t *testing.T) {
	base := repeated(256, 1)
	base[0] = 2
	k := trackerOf(t, graphOf(base))
	edges := edgesOf(256, maxEdges)
	slices.Reverse(edges)
	changes, e := k.Replace(edges)
	if len(changes) != 255 || e != api.OK {
		t.Errorf("Replace has changed %d threads, %v", len(changes), e)
	}
	expectTracker(t, k, graphOf(base, edgesOf(256, maxEdges)...))
}

func TestAddUpToTheLimit(t *testing.T) {
	base := repeated(256, 1)
	k := trackerOf(t, graphOf(base, edgesOf(256, maxEdges)...))
	full := graphOf(base, edgesOf(256, maxEdges)...)
	expectTrackerErrors := func(e edge, want api.Errno) {
		t.Helper()
		changes, code := k.Add(e)
		expectNoList(t, "Add", changes, code, want)
		expectTracker(t, k, full)
	}
	expectTrackerErrors(to(255, 255), api.ErrLimit)
	expectTrackerErrors(to(0, 0), api.ErrExist) // it is there: that is named first
	expectTrackerErrors(to(0, 256), api.ErrRange)
	changes, e := k.Remove(to(3, 4))
	expectChanges(t, "Remove", changes, e)
	changes, e = k.Add(to(255, 255))
	expectChanges(t, "Add", changes, e)
}

func TestTrackerErrors(t *testing.T) {
	g := graphOf([]int{10, 20, 5}, to(1, 2), to(2, 0))
	k := trackerOf(t, g)
	for _, thread := range append(wrongThreads, 3) {
		changes, e := k.SetBase(thread, 1)
		expectNoList(t, "SetBase", changes, e, api.ErrRange)
		changes, e = k.SetBase(thread, -1)
		expectNoList(t, "SetBase", changes, e, api.ErrRange)
		for _, x := range []edge{to(thread, 0), to(1, thread), to(thread, thread)} {
			changes, e = k.Add(x)
			expectNoList(t, "Add", changes, e, api.ErrRange)
			changes, e = k.Remove(x)
			expectNoList(t, "Remove", changes, e, api.ErrRange)
			changes, e = k.Replace([]edge{to(0, 0), x})
			expectNoList(t, "Replace", changes, e, api.ErrRange)
		}
		if got, e := k.Effective(thread); got != 0 || e != api.ErrRange {
			t.Errorf("Effective(%d) = %d, %v", thread, got, e)
		}
	}
	for _, priority := range wrongPriorities {
		changes, e := k.SetBase(1, priority)
		expectNoList(t, "SetBase", changes, e, api.ErrRange)
	}
	for _, x := range g.Edges {
		changes, e := k.Add(x)
		expectNoList(t, "Add", changes, e, api.ErrExist)
	}
	for _, x := range []edge{to(2, 1), to(0, 0), to(0, 2), to(2, 2)} { // the way back is another edge
		changes, e := k.Remove(x)
		expectNoList(t, "Remove", changes, e, api.ErrNoEntry)
	}
	changes, e := k.Replace([]edge{to(0, 0), to(0, 1), to(0, 0)})
	expectNoList(t, "Replace", changes, e, api.ErrTwice)
	changes, e = k.Replace(slices.Repeat([]edge{to(9, 9)}, maxEdges+1))
	expectNoList(t, "Replace", changes, e, api.ErrLimit)
	expectTracker(t, k, g)
}

// A tracker without threads has room for nothing.
func TestTrackerWithoutThreads(t *testing.T) {
	k := trackerOf(t, graph{})
	changes, e := k.SetBase(0, 0)
	expectNoList(t, "SetBase", changes, e, api.ErrRange)
	changes, e = k.Add(to(0, 0))
	expectNoList(t, "Add", changes, e, api.ErrRange)
	changes, e = k.Remove(to(0, 0))
	expectNoList(t, "Remove", changes, e, api.ErrRange)
	changes, e = k.Replace(nil)
	expectChanges(t, "Replace", changes, e)
	expectTracker(t, k, graph{})
}

func TestNilTracker(t *testing.T) {
	var k *inherit.Tracker
	for _, thread := range append(wrongThreads, 0) {
		changes, e := k.SetBase(thread, thread)
		expectNoList(t, "SetBase", changes, e, api.ErrState)
		changes, e = k.Add(to(thread, thread))
		expectNoList(t, "Add", changes, e, api.ErrState)
		changes, e = k.Remove(to(thread, thread))
		expectNoList(t, "Remove", changes, e, api.ErrState)
		changes, e = k.Replace([]edge{to(thread, thread)})
		expectNoList(t, "Replace", changes, e, api.ErrState)
		if got, e := k.Effective(thread); got != 0 || e != api.ErrState {
			t.Errorf("Effective(%d) = %d, %v", thread, got, e)
		}
	}
	changes, e := k.Replace(nil)
	expectNoList(t, "Replace", changes, e, api.ErrState)
	if g := k.Graph(); !sameGraph(g, graph{}) {
		t.Errorf("Graph() = %v", g)
	}
}

// The tracker keeps no argument, and gives away nothing of its own.
func TestTrackerSharesNoMemory(t *testing.T) {
	base, edges := []int{10, 20, 5, 77}, []edge{to(2, 0), to(1, 2), to(77, 77)}
	k := trackerOf(t, graphOf(base[:3]))
	k.Replace(edges[:2])
	k.SetBase(0, 9)
	k.Add(to(0, 0))
	if !slices.Equal(base, []int{10, 20, 5, 77}) || !slices.Equal(edges, []edge{to(2, 0), to(1, 2), to(77, 77)}) {
		t.Errorf("the arguments have become %v, %v", base, edges)
	}
	base[1], edges[0], edges[1] = 99, to(0, 1), to(0, 2)
	want := graphOf([]int{9, 20, 5}, to(0, 0), to(1, 2), to(2, 0))
	expectTracker(t, k, want)
	g := k.Graph()
	g.Base[0], g.Edges[0] = 100, to(2, 2)
	expectTracker(t, k, want)
	old := k.Graph()
	k.Remove(to(0, 0))
	k.SetBase(2, 200)
	if !sameGraph(old, want) {
		t.Errorf("a graph that was returned has become %v", old)
	}
}

func TestTrackersAreIndependent(t *testing.T) {
	base := []int{1, 2}
	first, second := trackerOf(t, graphOf(base)), trackerOf(t, graphOf(base))
	first.Add(to(1, 0))
	first.SetBase(1, 50)
	expectTracker(t, first, graphOf([]int{1, 50}, to(1, 0)))
	expectTracker(t, second, graphOf(base))
}
