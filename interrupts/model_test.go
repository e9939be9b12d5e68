package interrupts_test

import (
	"slices"
	"testing"

	"orpiment/api"
)

// numbers is a sequence of numbers that look random, but are the same in each run.
type numbers uint32

func (n *numbers) below(end int) int {
	*n = *n*1664525 + 1013904223
	return int(*n>>8) % end
}

// model is a controller that follows the definitions: a list of all attachments in their order, of all lines together.
type model struct {
	lines             []modelLine
	list              []modelAttachment
	waiting, signaled [api.MaxThreads]bool
}

type modelLine struct {
	own, spurious int
	pending       bool
}

type modelAttachment struct {
	id, line, thread, count int
	event                   api.Event
}

func (m *model) index(id int) int {
	return slices.IndexFunc(m.list, func(a modelAttachment) bool { return a.id == id })
}

func (m *model) attach(line, thread int, e api.Event, first bool) (int, api.Errno) {
	if len(m.list) == 100 {
		return 0, api.ErrLimit
	}
	id := 0
	for m.index(id) >= 0 {
		id++
	}
	a := modelAttachment{id: id, line: line, thread: thread, event: e}
	if first {
		m.list = append([]modelAttachment{a}, m.list...)
	} else {
		m.list = append(m.list, a)
	}
	return id, api.OK
}

func (m *model) detach(id int) api.Errno {
	i := m.index(id)
	if i < 0 {
		return api.ErrBadDescriptor
	}
	m.list = append(append([]modelAttachment{}, m.list[:i]...), m.list[i+1:]...)
	return api.OK
}

func (m *model) masks(line int) int {
	sum := m.lines[line].own
	for _, a := range m.list {
		if a.line == line {
			sum += a.count
		}
	}
	return sum
}

// count returns where a count is kept, or nil.
func (m *model) count(line, id int) *int {
	if id == own {
		return &m.lines[line].own
	}
	if i := m.index(id); i >= 0 && m.list[i].line == line {
		return &m.list[i].count
	}
	return nil
}

// change adds 1 to a count or takes it away.
func (m *model) change(line, id, by int) (int, api.Errno) {
	n := m.count(line, id)
	switch {
	case n == nil:
		return 0, api.ErrBadDescriptor
	case *n+by < 0:
		return 0, api.ErrState
	case *n+by > 1000:
		return 0, api.ErrLimit
	}
	*n += by
	return m.masks(line), api.OK
}

func (m *model) deliver() (out []delivery) {
	for n := range m.lines {
		if !m.lines[n].pending || m.masks(n) > 0 {
			continue
		}
		m.lines[n].pending = false
		before := len(out)
		for i, a := range m.list {
			if a.line != n {
				continue
			}
			d := delivery{Attachment: a.id, Line: n, Thread: a.thread, Event: a.event}
			if a.event.Kind != api.EventNone {
				m.list[i].count++
			}
			if k := a.event.Conn; a.event.Kind == api.EventWake {
				d.Wake = m.waiting[k]
				m.signaled[k] = m.signaled[k] || !d.Wake
				m.waiting[k] = false
			}
			out = append(out, d)
		}
		if len(out) == before {
			m.lines[n].spurious++
		}
	}
	return out
}

func (m *model) wait(thread int) (bool, api.Errno) {
	if m.waiting[thread] {
		return false, api.ErrState
	}
	m.waiting[thread] = !m.signaled[thread]
	m.signaled[thread] = false
	return m.waiting[thread], api.OK
}

func (m *model) drop(thread int) int {
	m.waiting[thread], m.signaled[thread] = false, false
	before := len(m.list)
	m.list = slices.DeleteFunc(m.list, func(a modelAttachment) bool { return a.thread == thread })
	return before - len(m.list)
}

// compared is a controller with its model.
type compared struct {
	t     *testing.T
	built *controller
	model *model
	n     *numbers
}

// event returns one that is not wrong.
func (c compared) event() api.Event {
	kinds := []int{api.EventNone, api.EventPulse, api.EventWake, api.EventWake}
	return api.Event{Kind: kinds[c.n.below(len(kinds))], Conn: c.n.below(4), Priority: c.n.below(256), Value: int64(c.n.below(100))}
}

// attachments makes one call that changes the attachments, and compares its results.
func (c compared) attachments(line, thread, id int) {
	switch c.n.below(8) {
	case 0:
		expectDetach(c.t, c.built, id, c.model.detach(id))
	case 1:
		expectDrop(c.t, c.built, thread, c.model.drop(thread))
	default:
		e, first := c.event(), c.n.below(2) == 0
		want, code := c.model.attach(line, thread, e, first)
		if code != api.OK {
			expectAttachError(c.t, c.built, line, thread, e, code)
			return
		}
		expectAttach(c.t, c.built, line, thread, e, first, want)
	}
}

// call makes one call, and compares its results.
func (c compared) call() {
	line, thread, id := c.n.below(len(c.model.lines)), c.n.below(4), c.n.below(14)-1
	switch c.n.below(12) {
	case 0:
		c.attachments(line, thread, id)
	case 1, 2:
		want, e := c.model.change(line, id, 1)
		expectMask(c.t, c.built, line, id, want, e)
	case 3, 4, 5, 6:
		want, e := c.model.change(line, id, -1)
		expectUnmask(c.t, c.built, line, id, want, e)
	case 7, 8:
		expectRaise(c.t, c.built, line, c.model.lines[line].pending, api.OK)
		c.model.lines[line].pending = true
	case 9:
		expectDeliver(c.t, c.built, c.model.deliver()...)
	case 10:
		want, e := c.model.wait(thread)
		expectWait(c.t, c.built, thread, want, e)
	case 11:
		expectCancel(c.t, c.built, thread, c.model.waiting[thread])
		c.model.waiting[thread] = false
	}
	for n, l := range c.model.lines {
		expectMasks(c.t, c.built, n, c.model.masks(n), api.OK)
		expectSpurious(c.t, c.built, n, l.spurious, api.OK)
	}
}

func TestModel(t *testing.T) {
	for seed := range numbers(200) {
		n := seed
		lines := 1 + n.below(4)
		c := compared{t, made(t, lines), &model{lines: make([]modelLine, lines)}, &n}
		for step := range 400 {
			c.call()
			if t.Failed() {
				t.Fatalf("seed %d, step %d", seed, step)
			}
		}
	}
}

// attachSome gives each line of a controller attachments whose events wake nobody, and returns how many each line has.
func (n *numbers) attachSome(t *testing.T, c *controller, lines int) []int {
	t.Helper()
	counts := make([]int, lines)
	for range n.below(12) {
		line := n.below(lines)
		e := api.Event{Kind: n.below(api.EventWake)}
		if _, code := c.Attach(line, n.below(5), e, n.below(2) == 0); code != api.OK {
			t.Fatalf("Attach: %v", code)
		}
		counts[line]++
	}
	return counts
}

// deliverCounts returns how many deliveries of each line Deliver returns.
func deliverCounts(c *controller, lines int) []int {
	counts := make([]int, lines)
	for _, d := range c.Deliver() {
		counts[d.Line]++
	}
	return counts
}

// TestMaskedLines: P8.5, a masked line is never delivered; one that is raised while it is masked is delivered once after its last unmask, with a delivery for each of its attachments.
func TestMaskedLines(t *testing.T) {
	for seed := range numbers(100) {
		n := seed
		c := made(t, 1)
		want := n.attachSome(t, c, 1)
		depth := 1 + n.below(5)
		for range depth {
			c.Mask(0, own)
		}
		for k := range depth {
			c.Raise(0)
			if got := deliverCounts(c, 1); got[0] != 0 {
				t.Fatalf("seed %d: %d deliveries of a line that is masked %d times", seed, got[0], depth-k)
			}
			c.Unmask(0, own)
		}
		if got := deliverCounts(c, 1); got[0] != want[0] {
			t.Fatalf("seed %d: %d deliveries; want %d", seed, got[0], want[0])
		}
		if got := deliverCounts(c, 1); got[0] != 0 {
			t.Fatalf("seed %d: delivered twice", seed)
		}
	}
}

// act makes a call for a line, and returns the sum of its counts.
func act(c *controller, kind, line, id int) int {
	switch kind {
	case 0:
		c.Mask(line, id)
	case 1, 2, 3:
		c.Unmask(line, id)
	default:
		c.Raise(line)
	}
	sum, _ := c.Masks(line)
	return sum
}

// TestLinesApart: P8.5, a line behaves the same way whatever happens to the other ones.
func TestLinesApart(t *testing.T) {
	for seed := range numbers(100) {
		n := seed
		twice := n
		alone, among := made(t, 1), made(t, 2)
		n.attachSome(t, alone, 1)
		twice.attachSome(t, among, 1)
		for range 3 {
			among.Attach(1, 2, pulse(0), false)
		}
		for step := range 200 {
			kind, id := n.below(6), n.below(15)-1
			if n.below(2) == 0 {
				act(among, kind, 1, id)
			} else if got, want := act(among, kind, 0, id), act(alone, kind, 0, id); got != want {
				t.Fatalf("seed %d, step %d: masked %d times; want %d", seed, step, got, want)
			}
			if n.below(3) > 0 {
				continue
			}
			if got, want := deliverCounts(among, 2)[0], deliverCounts(alone, 1)[0]; got != want {
				t.Fatalf("seed %d, step %d: %d deliveries; want %d", seed, step, got, want)
			}
		}
	}
}

// TestMaskUnmask: P8.5, Mask followed by Unmask changes nothing.
func TestMaskUnmask(t *testing.T) {
	for seed := range numbers(100) {
		n := seed
		twice := n
		a, b := made(t, 3), made(t, 3)
		n.attachSome(t, a, 3)
		twice.attachSome(t, b, 3)
		for step := range 60 {
			line, id := n.below(3), n.below(13)-1
			if _, e := b.Mask(line, id); e == api.OK {
				before, _ := a.Masks(line)
				expectUnmask(t, b, line, id, before, api.OK)
			}
			line, id = n.below(3), n.below(13)-1
			for _, c := range []*controller{a, b} {
				if step%3 == 0 {
					c.Mask(line, id)
				} else {
					c.Unmask(line, id)
				}
				c.Raise(line)
			}
			if x, y := a.Deliver(), b.Deliver(); !slices.Equal(x, y) {
				t.Fatalf("seed %d, step %d: %v and %v", seed, step, x, y)
			}
		}
	}
}
