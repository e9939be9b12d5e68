package inherit_test

import (
	"slices"
	"testing"

	"orpiment/api"
	"orpiment/inherit"
)

// numbers is a sequence of numbers that looks random and is the same in each run.
type numbers uint32

func (n *numbers) below(end int) int {
	*n = *n*1664525 + 1013904223
	return int(*n>>8) % end
}

// randomGraph returns a valid graph of n threads: each edge is there with a chance of one of so many.
func randomGraph(r *numbers, n, chance, priorities int) graph {
	var g graph
	for waiter := range n {
		g.Base = append(g.Base, r.below(priorities))
		for holder := range n {
			if r.below(chance) == 0 && len(g.Edges) < maxEdges {
				g.Edges = append(g.Edges, to(waiter, holder))
			}
		}
	}
	for i := range g.Edges {
		other := r.below(len(g.Edges))
		g.Edges[i], g.Edges[other] = g.Edges[other], g.Edges[i]
	}
	return g
}

// shapes calls a test with graphs of few threads: of few and of many edges, with few and with many priorities.
func shapes(test func(g graph)) {
	for n := range 7 {
		for chance := 1; chance <= 8; chance++ {
			r := numbers(100*n + chance)
			for range 40 {
				test(randomGraph(&r, n, chance, 3))
				test(randomGraph(&r, n, chance, 256))
			}
		}
	}
}

// reaches tells from which threads there are chains to which ones, by trying each thread as one between two others.
func reaches(g graph) [][]bool {
	table := make([][]bool, len(g.Base))
	for i := range table {
		table[i] = make([]bool, len(g.Base))
		table[i][i] = true
	}
	for _, e := range g.Edges {
		table[e.Waiter][e.Holder] = true
	}
	for between := range table {
		for from := range table {
			for end := range table {
				table[from][end] = table[from][end] || table[from][between] && table[between][end]
			}
		}
	}
	return table
}

// priorities returns the effective priorities as their definition says.
func priorities(g graph) []int {
	table, list := reaches(g), slices.Clone(g.Base)
	for from := range table {
		for end := range table {
			if table[from][end] {
				list[end] = max(list[end], g.Base[from])
			}
		}
	}
	return list
}

// walk calls visit with the chain and with all longer ones that have no thread twice, in lexicographic order of those of equal length.
func walk(g graph, chain []int, visit func(chain []int)) {
	visit(chain)
	for next := range g.Base {
		if slices.Contains(g.Edges, to(chain[len(chain)-1], next)) && !slices.Contains(chain, next) {
			walk(g, append(slices.Clone(chain), next), visit)
		}
	}
}

// reason goes through all chains to a thread.
func reason(g graph, thread int) []int {
	effective := priorities(g)[thread]
	var best []int
	for source := range g.Base {
		walk(g, []int{source}, func(chain []int) {
			ends := g.Base[source] == effective && chain[len(chain)-1] == thread
			if ends && (best == nil || len(chain) < len(best)) {
				best = chain
			}
		})
	}
	return best
}

// cycle goes through all cycles.
func cycle(g graph) []int {
	var best []int
	for first := range g.Base {
		walk(g, []int{first}, func(chain []int) {
			closes := slices.Contains(g.Edges, to(chain[len(chain)-1], first))
			if closes && (best == nil || len(chain)+1 < len(best)) {
				best = append(slices.Clone(chain), first)
			}
		})
	}
	return best
}

// P5.1
func TestEffectiveIsItsDefinition(t *testing.T) {
	shapes(func(g graph) { expectEffective(t, g, priorities(g)...) })
	r := numbers(1)
	for _, n := range []int{20, 60, 256} {
		for _, chance := range []int{n / 4, n / 2, n, 2 * n} {
			g := randomGraph(&r, n, chance, 256)
			expectEffective(t, g, priorities(g)...)
		}
	}
}

// P5.2
func TestReasonIsItsDefinition(t *testing.T) {
	shapes(func(g graph) {
		for thread := range g.Base {
			expectReason(t, g, thread, reason(g, thread)...)
		}
	})
}

// P5.2
func TestCycleIsItsDefinition(t *testing.T) {
	shapes(func(g graph) {
		if want := cycle(g); want != nil {
			expectCycle(t, g, want...)
			return
		}
		list, e := inherit.Cycle(g)
		expectNoList(t, "Cycle", list, e, api.ErrNoEntry)
	})
}

// model is a tracker that computes everything anew.
type model struct{ graph }

// become changes the graph, and returns the changes of the effective priorities.
func (m *model) become(g graph) []change {
	before, after := priorities(m.graph), priorities(g)
	var changes []change
	for thread := range after {
		if before[thread] != after[thread] {
			changes = append(changes, change{Thread: thread, Priority: after[thread]})
		}
	}
	m.graph = g
	return changes
}

func (m *model) wrong(thread int) bool { return thread < 0 || thread >= len(m.Base) }

func (m *model) setBase(thread, priority int) ([]change, api.Errno) {
	if m.wrong(thread) || priority < 0 || priority > api.MaxPriority {
		return nil, api.ErrRange
	}
	base := slices.Clone(m.Base)
	base[thread] = priority
	return m.become(graph{base, m.Edges}), api.OK
}

func (m *model) add(x edge) ([]change, api.Errno) {
	switch {
	case m.wrong(x.Waiter) || m.wrong(x.Holder):
		return nil, api.ErrRange
	case slices.Contains(m.Edges, x):
		return nil, api.ErrExist
	}
	return m.become(graph{m.Base, append(slices.Clone(m.Edges), x)}), api.OK
}

func (m *model) remove(x edge) ([]change, api.Errno) {
	switch {
	case m.wrong(x.Waiter) || m.wrong(x.Holder):
		return nil, api.ErrRange
	case !slices.Contains(m.Edges, x):
		return nil, api.ErrNoEntry
	}
	other := func(y edge) bool { return y == x }
	return m.become(graph{m.Base, slices.DeleteFunc(slices.Clone(m.Edges), other)}), api.OK
}

func (m *model) replace(l []edge) ([]change, api.Errno) {
	for i, x := range l {
		switch {
		case m.wrong(x.Waiter) || m.wrong(x.Holder):
			return nil, api.ErrRange
		case slices.Contains(l[:i], x):
			return nil, api.ErrTwice
		}
	}
	return m.become(graph{m.Base, slices.Clone(l)}), api.OK
}

// sorted returns the graph as a tracker returns it.
func (m *model) sorted() graph {
	return graph{m.Base, slices.SortedFunc(slices.Values(m.Edges), compareEdges)}
}

// edgesFor returns a list for Replace, now and then with an edge twice, or one that is out of range.
func (m *model) edgesFor(r *numbers) []edge {
	l := randomGraph(r, len(m.Base), 1+r.below(12), 1).Edges
	if r.below(4) == 0 {
		l = append(l, to(r.below(len(m.Base)), r.below(len(m.Base))))
	}
	if r.below(8) == 0 {
		l = slices.Insert(l, r.below(len(l)+1), to(r.below(len(m.Base)), len(m.Base)))
	}
	return l
}

// step makes one call of the tracker and of the model, and checks that both have the same result.
func step(t *testing.T, k *inherit.Tracker, m *model, r *numbers) {
	t.Helper()
	// One of the numbers of threads is wrong.
	x := to(r.below(len(m.Base)+1)-r.below(2), r.below(len(m.Base)))
	var got, want []change
	var e, wantError api.Errno
	switch r.below(8) {
	case 0:
		l := m.edgesFor(r)
		got, e = k.Replace(l)
		want, wantError = m.replace(l)
	case 1, 2:
		priority := r.below(258) - 1
		got, e = k.SetBase(x.Waiter, priority)
		want, wantError = m.setBase(x.Waiter, priority)
	case 3, 4, 5:
		got, e = k.Add(x)
		want, wantError = m.add(x)
	default:
		if len(m.Edges) > 0 && r.below(4) > 0 {
			x = m.Edges[r.below(len(m.Edges))]
		}
		got, e = k.Remove(x)
		want, wantError = m.remove(x)
	}
	if !slices.Equal(got, want) || e != wantError {
		t.Fatalf("a call with %v has returned %v, %v; want %v, %v", x, got, e, want, wantError)
	}
	expectTracker(t, k, m.sorted())
}

// P5.3, and P5.4: the tracker's effective priorities are those of its graph.
func TestTrackerIsItsModel(t *testing.T) {
	for n := 1; n <= 12; n++ {
		r := numbers(n)
		base := randomGraph(&r, n, 1, 256).Base
		k, m := trackerOf(t, graphOf(base)), &model{graphOf(base)}
		for range 500 {
			step(t, k, m, &r)
		}
	}
}

// P5.4

func effectiveOf(t *testing.T, g graph) []int {
	t.Helper()
	list, e := inherit.Effective(g)
	if e != api.OK || len(list) != len(g.Base) {
		t.Fatalf("Effective(%v) = %v, %v", g, list, e)
	}
	return list
}

// No effective priority is less than the base priority; without edges it is the base priority.
func TestBaseIsTheLeast(t *testing.T) {
	shapes(func(g graph) {
		for thread, priority := range effectiveOf(t, g) {
			if priority < g.Base[thread] {
				t.Errorf("Effective(%v) has %d for %d", g, priority, thread)
			}
		}
		expectEffective(t, graphOf(g.Base), g.Base...)
	})
}

// A list of edges in any order: each further edge decreases no effective priority.
func TestEdgesOnlyRaise(t *testing.T) {
	shapes(func(g graph) {
		k, before := trackerOf(t, graphOf(g.Base)), slices.Clone(g.Base)
		check := func(changes []change, raises bool) {
			for _, c := range changes {
				if (c.Priority > before[c.Thread]) != raises {
					t.Errorf("%v: an edge changes the priority of %d from %d to %d", g, c.Thread, before[c.Thread], c.Priority)
				}
				before[c.Thread] = c.Priority
			}
		}
		for _, x := range g.Edges {
			changes, _ := k.Add(x)
			check(changes, true)
		}
		for _, x := range g.Edges {
			changes, _ := k.Remove(x)
			check(changes, false)
		}
		expectTracker(t, k, graphOf(g.Base))
	})
}

// Threads of one cycle have the same effective priority.
func TestCyclesAreEqual(t *testing.T) {
	shapes(func(g graph) {
		list, table := effectiveOf(t, g), reaches(g)
		for a := range table {
			for b := range table {
				if table[a][b] && table[b][a] && list[a] != list[b] {
					t.Errorf("Effective(%v) = %v, but %d and %d wait for each other", g, list, a, b)
				}
			}
		}
	})
}

// A reason is a chain without a thread that it has twice, and none of its threads is more urgent than the last one.
func TestReasonsAreChains(t *testing.T) {
	r := numbers(5)
	for range 40 {
		g := randomGraph(&r, 40, 20+r.below(60), 256)
		effective := effectiveOf(t, g)
		for thread := range g.Base {
			chain, e := inherit.Reason(g, thread)
			if e != api.OK || len(chain) == 0 || chain[len(chain)-1] != thread || g.Base[chain[0]] != effective[thread] {
				t.Fatalf("Reason(%v, %d) = %v, %v", g, thread, chain, e)
			}
			for i, a := range chain {
				linked := i == 0 || slices.Contains(g.Edges, to(chain[i-1], a))
				if !linked || slices.Contains(chain[:i], a) || effective[a] > effective[thread] {
					t.Errorf("Reason(%v, %d) = %v", g, thread, chain)
				}
			}
		}
	}
}
