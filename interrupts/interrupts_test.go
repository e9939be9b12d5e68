package interrupts_test

import (
	"math"
	"slices"
	"testing"

	"orpiment/api"
	"orpiment/interrupts"
)

type (
	controller = interrupts.Controller
	delivery   = interrupts.Delivery
)

// own stands for the own count of a line.
const own = -1

var (
	wrongThreads = []int{-1, -2, api.MaxThreads, 1000, math.MaxInt, math.MinInt}
	wrongKinds   = []int{-1, api.EventKinds, 100, math.MaxInt, math.MinInt}
	handler      = api.Event{}
)

// pulse returns an event that is told from others by its value.
func pulse(value int64) api.Event {
	return api.Event{Kind: api.EventPulse, Conn: 3, Priority: 20, Code: 7, Value: value}
}

// wakes returns an event that wakes a thread.
func wakes(thread int) api.Event { return api.Event{Kind: api.EventWake, Conn: thread} }

func made(t *testing.T, lines int) *controller {
	t.Helper()
	c, e := interrupts.New(lines)
	if c == nil || e != api.OK {
		t.Fatalf("New(%d) = %v, %v", lines, c, e)
	}
	return c
}

func expectAttach(t *testing.T, c *controller, line, thread int, e api.Event, first bool, want int) {
	t.Helper()
	if got, code := c.Attach(line, thread, e, first); got != want || code != api.OK {
		t.Errorf("Attach(%d, %d, %v, %v) = %d, %v; want %d", line, thread, e, first, got, code, want)
	}
}

func expectAttachError(t *testing.T, c *controller, line, thread int, e api.Event, want api.Errno) {
	t.Helper()
	for _, first := range []bool{false, true} {
		if got, code := c.Attach(line, thread, e, first); got != 0 || code != want {
			t.Errorf("Attach(%d, %d, %v, %v) = %d, %v; want 0, %v", line, thread, e, first, got, code, want)
		}
	}
}

func expectDetach(t *testing.T, c *controller, id int, want api.Errno) {
	t.Helper()
	if got := c.Detach(id); got != want {
		t.Errorf("Detach(%d) = %v; want %v", id, got, want)
	}
}

func expectMask(t *testing.T, c *controller, line, id, want int, wantError api.Errno) {
	t.Helper()
	if got, e := c.Mask(line, id); got != want || e != wantError {
		t.Errorf("Mask(%d, %d) = %d, %v; want %d, %v", line, id, got, e, want, wantError)
	}
}

func expectUnmask(t *testing.T, c *controller, line, id, want int, wantError api.Errno) {
	t.Helper()
	if got, e := c.Unmask(line, id); got != want || e != wantError {
		t.Errorf("Unmask(%d, %d) = %d, %v; want %d, %v", line, id, got, e, want, wantError)
	}
}

func expectMasks(t *testing.T, c *controller, line, want int, wantError api.Errno) {
	t.Helper()
	if got, e := c.Masks(line); got != want || e != wantError {
		t.Errorf("Masks(%d) = %d, %v; want %d, %v", line, got, e, want, wantError)
	}
}

func expectSpurious(t *testing.T, c *controller, line, want int, wantError api.Errno) {
	t.Helper()
	if got, e := c.Spurious(line); got != want || e != wantError {
		t.Errorf("Spurious(%d) = %d, %v; want %d, %v", line, got, e, want, wantError)
	}
}

func expectRaise(t *testing.T, c *controller, line int, want bool, wantError api.Errno) {
	t.Helper()
	if got, e := c.Raise(line); got != want || e != wantError {
		t.Errorf("Raise(%d) = %v, %v; want %v, %v", line, got, e, want, wantError)
	}
}

func expectDeliver(t *testing.T, c *controller, want ...delivery) {
	t.Helper()
	if got := c.Deliver(); !slices.Equal(got, want) {
		t.Errorf("Deliver() = %v; want %v", got, want)
	}
}

func expectWait(t *testing.T, c *controller, thread int, want bool, wantError api.Errno) {
	t.Helper()
	if got, e := c.Wait(thread); got != want || e != wantError {
		t.Errorf("Wait(%d) = %v, %v; want %v, %v", thread, got, e, want, wantError)
	}
}

func expectCancel(t *testing.T, c *controller, thread int, want bool) {
	t.Helper()
	if got := c.Cancel(thread); got != want {
		t.Errorf("Cancel(%d) = %v; want %v", thread, got, want)
	}
}

func expectDrop(t *testing.T, c *controller, thread, want int) {
	t.Helper()
	if got := c.Drop(thread); got != want {
		t.Errorf("Drop(%d) = %d; want %d", thread, got, want)
	}
}

// to returns a delivery that wakes nobody.
func to(id, line, thread int, e api.Event) delivery {
	return delivery{Attachment: id, Line: line, Thread: thread, Event: e}
}

// woken returns a delivery that wakes a thread.
func woken(id, line, thread, waiter int) delivery {
	return delivery{Attachment: id, Line: line, Thread: thread, Event: wakes(waiter), Wake: true}
}

func TestExamples(t *testing.T) {
	c := made(t, 8)
	expectAttach(t, c, 3, 5, pulse(1), false, 0)
	expectAttach(t, c, 3, 6, handler, false, 1)
	both := []delivery{to(0, 3, 5, pulse(1)), to(1, 3, 6, handler)}
	expectRaise(t, c, 3, false, api.OK)
	expectDeliver(t, c, both...)
	expectMasks(t, c, 3, 1, api.OK)
	expectRaise(t, c, 3, false, api.OK)
	expectDeliver(t, c)
	expectUnmask(t, c, 3, 0, 0, api.OK)
	expectDeliver(t, c, both...)

	expectUnmask(t, c, 3, 0, 0, api.OK)
	expectRaise(t, c, 3, false, api.OK)
	expectRaise(t, c, 3, true, api.OK)
	expectDeliver(t, c, both...)
	expectUnmask(t, c, 3, 0, 0, api.OK)
	expectDeliver(t, c)
}

func TestNew(t *testing.T) {
	for _, lines := range []int{0, -1, api.MaxLines + 1, 1000, math.MaxInt, math.MinInt} {
		if c, e := interrupts.New(lines); c != nil || e != api.ErrRange {
			t.Errorf("New(%d) = %v, %v; want nil, %v", lines, c, e, api.ErrRange)
		}
	}
	for lines := 1; lines <= api.MaxLines; lines++ {
		c := made(t, lines)
		for n := range lines {
			expectMasks(t, c, n, 0, api.OK)
			expectSpurious(t, c, n, 0, api.OK)
		}
		expectMasks(t, c, lines, 0, api.ErrRange)
		expectDeliver(t, c)
	}
}

// TestLine: P8.1, a channel identifies a line: always the same one, a different one for each line and each controller.
func TestLine(t *testing.T) {
	seen := map[chan struct{}]bool{}
	for range 3 {
		c := made(t, 5)
		for n := range 5 {
			l := c.Line(n)
			if l == nil || seen[l] {
				t.Errorf("Line(%d) = %v", n, l)
			}
			seen[l] = true
			expectRaise(t, c, n, false, api.OK)
			c.Deliver()
			if again := c.Line(n); again != l {
				t.Errorf("Line(%d) = %v; want %v", n, again, l)
			}
		}
		for _, n := range []int{-1, -2, 5, 6, api.MaxLines, math.MaxInt, math.MinInt} {
			if l := c.Line(n); l != nil {
				t.Errorf("Line(%d) = %v; want nil", n, l)
			}
		}
	}
}

// TestNumber: P8.1, Number is the inverse of Line, and -1 for all other channels.
func TestNumber(t *testing.T) {
	c, other := made(t, api.MaxLines), made(t, api.MaxLines)
	for n := range api.MaxLines {
		if got := c.Number(c.Line(n)); got != n {
			t.Errorf("Number(Line(%d)) = %d", n, got)
		}
		if got := c.Number(other.Line(n)); got != -1 {
			t.Errorf("Number of line %d of another controller = %d; want -1", n, got)
		}
	}
	for _, l := range []chan struct{}{nil, make(chan struct{}), make(chan struct{}, 1)} {
		if got := c.Number(l); got != -1 {
			t.Errorf("Number(%v) = %d; want -1", l, got)
		}
	}
	close(c.Line(2))
	if got := c.Number(c.Line(2)); got != 2 {
		t.Errorf("Number of a closed channel = %d; want 2", got)
	}
}

// TestAttachLeastFree: P8.2, an attachment has the least number that none has, whatever its line is.
func TestAttachLeastFree(t *testing.T) {
	c := made(t, 4)
	for id := range 6 {
		expectAttach(t, c, id%4, 9-id, pulse(0), id%2 == 0, id)
	}
	expectDetach(t, c, 4, api.OK)
	expectDetach(t, c, 1, api.OK)
	expectAttach(t, c, 0, 0, pulse(0), false, 1)
	expectAttach(t, c, 0, 0, pulse(0), true, 4)
	expectAttach(t, c, 0, 0, pulse(0), false, 6)
	expectDetach(t, c, 0, api.OK)
	expectAttach(t, c, 2, 0, pulse(0), false, 0)
}

// TestAttachOrder: a new attachment is the last one of its line, or the first one if that is asked for.
func TestAttachOrder(t *testing.T) {
	c := made(t, 2)
	for id, first := range []bool{false, true, false, true, false} {
		expectAttach(t, c, 1, id, handler, first, id)
	}
	expectAttach(t, c, 0, 9, handler, true, 5)
	ids := func(want ...int) {
		t.Helper()
		var l []delivery
		for _, id := range want {
			l = append(l, to(id, 1, id, handler))
		}
		expectRaise(t, c, 1, false, api.OK)
		expectDeliver(t, c, l...)
	}
	ids(3, 1, 0, 2, 4)
	expectDetach(t, c, 1, api.OK)
	ids(3, 0, 2, 4)
	expectAttach(t, c, 1, 1, handler, false, 1)
	ids(3, 0, 2, 4, 1)
	expectDetach(t, c, 3, api.OK)
	ids(0, 2, 4, 1)
}

// TestAttachBorders: all events within the limits are accepted, and delivered as they are.
func TestAttachBorders(t *testing.T) {
	for _, e := range []api.Event{
		{},
		{Kind: api.EventNone, Conn: math.MaxInt, Priority: api.MaxPriority, Code: 127, Value: math.MaxInt64},
		{Kind: api.EventPulse, Conn: math.MaxInt, Code: -128, Value: math.MinInt64},
		{Kind: api.EventSignal, Conn: 1000, Priority: 1, Code: 5, Value: -1},
		{Kind: api.EventPost, Conn: api.MaxThreads, Priority: api.MaxPriority},
		{Kind: api.EventWake},
		{Kind: api.EventWake, Conn: api.MaxThreads - 1, Priority: api.MaxPriority, Code: 127, Value: 8},
	} {
		for _, thread := range []int{0, api.MaxThreads - 1} {
			c := made(t, api.MaxLines)
			for _, line := range []int{0, api.MaxLines - 1} {
				expectAttach(t, c, line, thread, e, false, line/(api.MaxLines-1))
				expectRaise(t, c, line, false, api.OK)
				expectDeliver(t, c, to(line/(api.MaxLines-1), line, thread, e))
			}
		}
	}
}

// with returns the event of pulse with other numbers.
func with(kind, conn, priority, code int) api.Event {
	return api.Event{Kind: kind, Conn: conn, Priority: priority, Code: code}
}

func TestAttachErrors(t *testing.T) {
	c := made(t, 4)
	for _, line := range []int{-1, 4, api.MaxLines, math.MaxInt, math.MinInt} {
		expectAttachError(t, c, line, 0, pulse(0), api.ErrRange)
		expectAttachError(t, c, line, -1, with(-1, -1, -1, -200), api.ErrRange)
	}
	for _, thread := range wrongThreads {
		expectAttachError(t, c, 0, thread, pulse(0), api.ErrRange)
		expectAttachError(t, c, 0, thread, with(-1, 0, 0, 0), api.ErrRange)
	}
	for _, kind := range wrongKinds {
		expectAttachError(t, c, 0, 0, with(kind, 0, 0, 0), api.ErrKind)
		expectAttachError(t, c, 0, 0, with(kind, -1, -1, -200), api.ErrKind)
	}
	for kind := api.EventNone; kind <= api.EventWake; kind++ {
		for _, conn := range []int{-1, -2, math.MinInt} {
			expectAttachError(t, c, 0, 0, with(kind, conn, 0, 0), api.ErrRange)
		}
		for _, priority := range []int{-1, -2, api.MaxPriority + 1, math.MaxInt, math.MinInt} {
			expectAttachError(t, c, 0, 0, with(kind, 0, priority, 0), api.ErrRange)
		}
		for _, code := range []int{-129, 128, math.MaxInt, math.MinInt} {
			expectAttachError(t, c, 0, 0, with(kind, 0, 0, code), api.ErrRange)
		}
	}
	for _, thread := range wrongThreads {
		expectAttachError(t, c, 0, 0, wakes(thread), api.ErrRange)
	}
	expectAttach(t, c, 0, 0, pulse(0), false, 0)
	expectRaise(t, c, 0, false, api.OK)
	expectDeliver(t, c, to(0, 0, 0, pulse(0)))
}

// TestAttachLimit: there are at most 100 attachments of all lines together.
func TestAttachLimit(t *testing.T) {
	c := made(t, 3)
	for id := range 100 {
		expectAttach(t, c, id%3, id%7, pulse(0), false, id)
	}
	expectAttachError(t, c, 0, 0, pulse(0), api.ErrLimit)
	expectAttachError(t, c, 3, 0, pulse(0), api.ErrRange)
	expectAttachError(t, c, 0, 0, with(-1, 0, 0, 0), api.ErrKind)
	expectAttachError(t, c, 0, 0, with(0, -1, 0, 0), api.ErrRange)
	expectDetach(t, c, 99, api.OK)
	expectAttach(t, c, 0, 0, pulse(0), false, 99)
	expectAttachError(t, c, 0, 0, pulse(0), api.ErrLimit)
	expectDrop(t, c, 3, 14)
	expectAttach(t, c, 0, 0, pulse(0), false, 3)
}

// TestDetach: P8.2, an attachment is removed with its count, and nothing else is.
func TestDetach(t *testing.T) {
	c := made(t, 2)
	for id := range 3 {
		expectAttach(t, c, 1, id, pulse(0), false, id)
	}
	expectMask(t, c, 1, 0, 1, api.OK)
	expectMask(t, c, 1, 1, 2, api.OK)
	expectMask(t, c, 1, 1, 3, api.OK)
	expectMask(t, c, 1, own, 4, api.OK)
	expectMask(t, c, 0, own, 1, api.OK)
	expectDetach(t, c, 1, api.OK)
	expectMasks(t, c, 1, 2, api.OK)
	expectMasks(t, c, 0, 1, api.OK)
	expectDetach(t, c, 1, api.ErrBadDescriptor)
	expectMask(t, c, 1, 1, 0, api.ErrBadDescriptor)
	expectAttach(t, c, 1, 5, pulse(5), false, 1)
	expectMasks(t, c, 1, 2, api.OK)
	expectUnmask(t, c, 1, 1, 0, api.ErrState)
	expectUnmask(t, c, 1, 0, 1, api.OK)
	expectUnmask(t, c, 1, own, 0, api.OK)
	expectRaise(t, c, 1, false, api.OK)
	expectDeliver(t, c, to(0, 1, 0, pulse(0)), to(2, 1, 2, pulse(0)), to(1, 1, 5, pulse(5)))
}

// TestDetachUnmasks: a line that only a removed attachment has masked is masked no more.
func TestDetachUnmasks(t *testing.T) {
	c := made(t, 1)
	expectAttach(t, c, 0, 1, pulse(0), false, 0)
	expectRaise(t, c, 0, false, api.OK)
	expectDeliver(t, c, to(0, 0, 1, pulse(0)))
	expectRaise(t, c, 0, false, api.OK)
	expectDeliver(t, c)
	expectDetach(t, c, 0, api.OK)
	expectMasks(t, c, 0, 0, api.OK)
	expectDeliver(t, c)
	expectSpurious(t, c, 0, 1, api.OK)
}

func TestDetachErrors(t *testing.T) {
	c := made(t, 2)
	expectAttach(t, c, 1, 0, pulse(0), false, 0)
	for _, id := range []int{-1, -2, 1, 99, 100, math.MaxInt, math.MinInt} {
		expectDetach(t, c, id, api.ErrBadDescriptor)
	}
	expectDetach(t, c, 0, api.OK)
	expectDetach(t, c, 0, api.ErrBadDescriptor)
}

// TestMask: P8.2, Mask and Unmask change one count by 1 and return the sum of the line.
func TestMask(t *testing.T) {
	c := made(t, 3)
	expectAttach(t, c, 1, 0, pulse(0), false, 0)
	expectAttach(t, c, 1, 0, handler, false, 1)
	expectAttach(t, c, 2, 0, pulse(0), false, 2)
	sum := 0
	for _, id := range []int{own, 0, 1, own, 0, 0} {
		sum++
		expectMask(t, c, 1, id, sum, api.OK)
		expectMasks(t, c, 1, sum, api.OK)
	}
	expectMask(t, c, 2, own, 1, api.OK)
	expectMasks(t, c, 0, 0, api.OK)
	for _, id := range []int{1, own, 0, own, 0, 0} {
		sum--
		expectUnmask(t, c, 1, id, sum, api.OK)
		expectMasks(t, c, 1, sum, api.OK)
	}
	for _, id := range []int{own, 0, 1} {
		expectUnmask(t, c, 1, id, 0, api.ErrState)
	}
	expectMasks(t, c, 2, 1, api.OK)
}

func TestMaskErrors(t *testing.T) {
	c := made(t, 3)
	expectAttach(t, c, 1, 0, pulse(0), false, 0)
	expectAttach(t, c, 2, 0, pulse(0), false, 1)
	expectMask(t, c, 1, own, 1, api.OK)
	for _, line := range []int{-1, 3, api.MaxLines, math.MaxInt, math.MinInt} {
		for _, id := range []int{own, 0, 7} {
			expectMask(t, c, line, id, 0, api.ErrRange)
			expectUnmask(t, c, line, id, 0, api.ErrRange)
		}
		expectMasks(t, c, line, 0, api.ErrRange)
		expectSpurious(t, c, line, 0, api.ErrRange)
		expectRaise(t, c, line, false, api.ErrRange)
	}
	for _, id := range []int{-2, 1, 2, 100, math.MaxInt, math.MinInt} {
		expectMask(t, c, 1, id, 0, api.ErrBadDescriptor)
		expectUnmask(t, c, 1, id, 0, api.ErrBadDescriptor)
	}
	expectMask(t, c, 0, 0, 0, api.ErrBadDescriptor)
	expectUnmask(t, c, 1, 0, 0, api.ErrState)
	expectUnmask(t, c, 0, own, 0, api.ErrState)
	expectMasks(t, c, 0, 0, api.OK)
	expectMasks(t, c, 1, 1, api.OK)
	expectMasks(t, c, 2, 0, api.OK)
}

// TestMaskLimit: each count is at most 1000, and the sum may be greater.
func TestMaskLimit(t *testing.T) {
	c := made(t, 2)
	expectAttach(t, c, 1, 0, pulse(0), false, 0)
	for i, id := range []int{own, 0} {
		for k := range 1000 {
			expectMask(t, c, 1, id, i*1000+k+1, api.OK)
		}
		expectMask(t, c, 1, id, 0, api.ErrLimit)
	}
	expectMask(t, c, 1, 1, 0, api.ErrBadDescriptor)
	expectMasks(t, c, 1, 2000, api.OK)
	expectUnmask(t, c, 1, 0, 1999, api.OK)
	expectMask(t, c, 1, own, 0, api.ErrLimit)
	expectMask(t, c, 1, 0, 2000, api.OK)
	expectMask(t, c, 1, 0, 0, api.ErrLimit)
}

// TestRaise: P8.2, Raise makes a line pending, masked or not, and reports whether it was pending already.
func TestRaise(t *testing.T) {
	c := made(t, 3)
	expectRaise(t, c, 2, false, api.OK)
	expectRaise(t, c, 2, true, api.OK)
	expectRaise(t, c, 1, false, api.OK)
	expectRaise(t, c, 2, true, api.OK)
	expectMask(t, c, 0, own, 1, api.OK)
	expectRaise(t, c, 0, false, api.OK)
	expectRaise(t, c, 0, true, api.OK)
	expectDeliver(t, c)
	expectRaise(t, c, 0, true, api.OK)
	expectRaise(t, c, 1, false, api.OK)
	expectRaise(t, c, 2, false, api.OK)
}

// TestDeliver: P8.3, the lines that are pending and not masked are delivered in the order of their numbers, each once.
func TestDeliver(t *testing.T) {
	c := made(t, 5)
	for id, line := range []int{4, 0, 2, 0, 3} {
		expectAttach(t, c, line, id, pulse(int64(id)), false, id)
	}
	for _, line := range []int{4, 3, 2, 1, 0} {
		expectRaise(t, c, line, false, api.OK)
	}
	expectMask(t, c, 2, own, 1, api.OK)
	expectMask(t, c, 3, 4, 1, api.OK)
	expectDeliver(t, c, to(1, 0, 1, pulse(1)), to(3, 0, 3, pulse(3)), to(0, 4, 0, pulse(0)))
	expectDeliver(t, c)
	for line, want := range []int{2, 0, 1, 1, 1} {
		expectMasks(t, c, line, want, api.OK)
	}
	expectUnmask(t, c, 3, 4, 0, api.OK)
	expectUnmask(t, c, 2, own, 0, api.OK)
	expectDeliver(t, c, to(2, 2, 2, pulse(2)), to(4, 3, 4, pulse(4)))
	expectDeliver(t, c)
}

// TestDeliverMasks: a delivery increases the counts of the attachments that are not handlers, each by 1.
func TestDeliverMasks(t *testing.T) {
	c := made(t, 2)
	expectAttach(t, c, 1, 0, handler, false, 0)
	for kind := api.EventPulse; kind <= api.EventWake; kind++ {
		expectAttach(t, c, 1, 0, with(kind, 9, 0, 0), false, kind)
	}
	expectRaise(t, c, 1, false, api.OK)
	if got := c.Deliver(); len(got) != 5 {
		t.Errorf("Deliver() = %v; want 5 deliveries", got)
	}
	expectMasks(t, c, 1, 4, api.OK)
	expectUnmask(t, c, 1, own, 0, api.ErrState)
	expectUnmask(t, c, 1, 0, 0, api.ErrState)
	for kind := api.EventPulse; kind <= api.EventWake; kind++ {
		expectUnmask(t, c, 1, kind, 4-kind, api.OK)
		expectUnmask(t, c, 1, kind, 0, api.ErrState)
	}
	expectMasks(t, c, 0, 0, api.OK)
}

// TestSpurious: P8.3, a delivery of a line without attachments is a spurious interrupt.
func TestSpurious(t *testing.T) {
	c := made(t, 2)
	for n := range 3 {
		expectRaise(t, c, 1, false, api.OK)
		expectRaise(t, c, 1, true, api.OK)
		expectSpurious(t, c, 1, n, api.OK)
		expectDeliver(t, c)
		expectSpurious(t, c, 1, n+1, api.OK)
		expectDeliver(t, c)
		expectSpurious(t, c, 1, n+1, api.OK)
		expectMasks(t, c, 1, 0, api.OK)
	}
	expectSpurious(t, c, 0, 0, api.OK)
	expectMask(t, c, 1, own, 1, api.OK)
	expectRaise(t, c, 1, false, api.OK)
	expectDeliver(t, c)
	expectSpurious(t, c, 1, 3, api.OK)
	expectAttach(t, c, 1, 0, handler, false, 0)
	expectUnmask(t, c, 1, own, 0, api.OK)
	expectDeliver(t, c, to(0, 1, 0, handler))
	expectSpurious(t, c, 1, 3, api.OK)
}

// TestWait: P8.4, a thread that waits becomes ready by a delivery that wakes it.
func TestWait(t *testing.T) {
	for _, thread := range []int{0, 7, api.MaxThreads - 1} {
		c := made(t, 2)
		expectAttach(t, c, 1, 3, wakes(thread), false, 0)
		expectWait(t, c, thread, true, api.OK)
		expectWait(t, c, thread, false, api.ErrState)
		expectRaise(t, c, 1, false, api.OK)
		expectDeliver(t, c, woken(0, 1, 3, thread))
		expectWait(t, c, thread, true, api.OK)
		expectRaise(t, c, 1, false, api.OK)
		expectDeliver(t, c)
		expectUnmask(t, c, 1, 0, 0, api.OK)
		expectDeliver(t, c, woken(0, 1, 3, thread))
		expectCancel(t, c, thread, false)
	}
}

// TestSignaled: P8.4, a thread that is woken when it does not wait is signaled, at most once, and does not block at its next Wait.
func TestSignaled(t *testing.T) {
	c := made(t, 3)
	expectAttach(t, c, 1, 3, wakes(7), false, 0)
	expectAttach(t, c, 2, 3, wakes(7), false, 1)
	expectRaise(t, c, 1, false, api.OK)
	expectDeliver(t, c, to(0, 1, 3, wakes(7)))
	expectRaise(t, c, 2, false, api.OK)
	expectDeliver(t, c, to(1, 2, 3, wakes(7)))
	expectCancel(t, c, 7, false)
	expectWait(t, c, 8, true, api.OK)
	expectWait(t, c, 7, false, api.OK)
	expectWait(t, c, 7, true, api.OK)
	expectWait(t, c, 7, false, api.ErrState)
}

// TestWakeOnce: of several deliveries at once the first one wakes the thread, and the next one signals it.
func TestWakeOnce(t *testing.T) {
	c := made(t, 3)
	expectAttach(t, c, 2, 1, wakes(7), false, 0)
	expectAttach(t, c, 0, 2, wakes(7), false, 1)
	expectAttach(t, c, 0, 3, wakes(8), false, 2)
	expectAttach(t, c, 0, 4, wakes(7), true, 3)
	for _, thread := range []int{7, 8, 9} {
		expectWait(t, c, thread, true, api.OK)
	}
	expectRaise(t, c, 2, false, api.OK)
	expectRaise(t, c, 0, false, api.OK)
	expectDeliver(t, c, woken(3, 0, 4, 7), to(1, 0, 2, wakes(7)), woken(2, 0, 3, 8), to(0, 2, 1, wakes(7)))
	expectWait(t, c, 7, false, api.OK)
	expectWait(t, c, 7, true, api.OK)
	expectWait(t, c, 8, true, api.OK)
	expectWait(t, c, 9, false, api.ErrState)
}

// TestOnlyWake: events of other kinds, and the thread of an attachment, wake nobody.
func TestOnlyWake(t *testing.T) {
	c := made(t, 1)
	for kind := api.EventNone; kind <= api.EventPost; kind++ {
		expectAttach(t, c, 0, 7, with(kind, 7, 0, 0), false, kind)
	}
	expectAttach(t, c, 0, 7, wakes(8), false, api.EventWake)
	expectWait(t, c, 7, true, api.OK)
	expectRaise(t, c, 0, false, api.OK)
	for _, d := range c.Deliver() {
		if d.Wake {
			t.Errorf("%v wakes", d)
		}
	}
	expectWait(t, c, 7, false, api.ErrState)
	expectCancel(t, c, 7, true)
	expectWait(t, c, 7, true, api.OK)
}

func TestWaitErrors(t *testing.T) {
	c := made(t, 1)
	for _, thread := range wrongThreads {
		expectWait(t, c, thread, false, api.ErrRange)
		expectWait(t, c, thread, false, api.ErrRange)
		expectCancel(t, c, thread, false)
		expectDrop(t, c, thread, 0)
	}
}

// TestCancel: P8.4, Cancel ends the waiting of one thread.
func TestCancel(t *testing.T) {
	c := made(t, 1)
	expectAttach(t, c, 0, 3, wakes(7), false, 0)
	expectCancel(t, c, 7, false)
	expectWait(t, c, 7, true, api.OK)
	expectWait(t, c, 8, true, api.OK)
	expectCancel(t, c, 7, true)
	expectCancel(t, c, 7, false)
	expectRaise(t, c, 0, false, api.OK)
	expectDeliver(t, c, to(0, 0, 3, wakes(7)))
	expectWait(t, c, 8, false, api.ErrState)
	expectCancel(t, c, 7, false)
	expectWait(t, c, 7, false, api.OK)
	expectWait(t, c, 7, true, api.OK)
	expectCancel(t, c, 7, true)
}

// TestDrop: P8.4, Drop removes the attachments of a thread with their counts.
func TestDrop(t *testing.T) {
	c := made(t, 3)
	for id, thread := range []int{5, 6, 5, 5, 6} {
		expectAttach(t, c, id%3, thread, pulse(0), false, id)
		expectMask(t, c, id%3, id, id/3+1, api.OK)
	}
	expectMask(t, c, 0, own, 3, api.OK)
	expectDrop(t, c, 4, 0)
	expectDrop(t, c, 5, 3)
	expectDrop(t, c, 5, 0)
	for line, want := range []int{1, 2, 0} {
		expectMasks(t, c, line, want, api.OK)
	}
	for id, want := range []api.Errno{api.ErrBadDescriptor, api.OK, api.ErrBadDescriptor, api.ErrBadDescriptor, api.OK} {
		expectDetach(t, c, id, want)
	}
}

// TestDropWaiting: P8.4, Drop removes the waiting and the being signaled of a thread, but not what wakes it.
func TestDropWaiting(t *testing.T) {
	c := made(t, 1)
	expectAttach(t, c, 0, 3, wakes(7), false, 0)
	expectWait(t, c, 7, true, api.OK)
	expectWait(t, c, 8, true, api.OK)
	expectDrop(t, c, 7, 0)
	expectCancel(t, c, 7, false)
	expectCancel(t, c, 8, true)
	expectRaise(t, c, 0, false, api.OK)
	expectDeliver(t, c, to(0, 0, 3, wakes(7)))
	expectDrop(t, c, 8, 0)
	expectDrop(t, c, 7, 0)
	expectWait(t, c, 7, true, api.OK)
	expectUnmask(t, c, 0, 0, 0, api.OK)
	expectRaise(t, c, 0, false, api.OK)
	expectDrop(t, c, 3, 1)
	expectDeliver(t, c)
	expectSpurious(t, c, 0, 1, api.OK)
	expectWait(t, c, 7, false, api.ErrState)
}

// TestNil: the methods of a nil pointer return zero values and ErrState, before any argument is examined.
func TestNil(t *testing.T) {
	for _, c := range []*controller{nil, {}} {
		for _, n := range []int{0, -1, 1000} {
			if l := c.Line(n); l != nil {
				t.Errorf("Line(%d) = %v; want nil", n, l)
			}
			expectAttachError(t, c, n, n, pulse(0), api.ErrState)
			expectAttachError(t, c, n, n, with(-1, -1, -1, -200), api.ErrState)
			expectDetach(t, c, n, api.ErrState)
			expectMask(t, c, n, n, 0, api.ErrState)
			expectMask(t, c, n, own, 0, api.ErrState)
			expectUnmask(t, c, n, n, 0, api.ErrState)
			expectUnmask(t, c, n, own, 0, api.ErrState)
			expectRaise(t, c, n, false, api.ErrState)
			expectWait(t, c, n, false, api.ErrState)
			expectCancel(t, c, n, false)
			expectDrop(t, c, n, 0)
			expectMasks(t, c, n, 0, api.ErrState)
			expectSpurious(t, c, n, 0, api.ErrState)
		}
		expectDeliver(t, c)
		for _, l := range []chan struct{}{nil, make(chan struct{})} {
			if got := c.Number(l); got != -1 {
				t.Errorf("Number(%v) = %d; want -1", l, got)
			}
		}
	}
}

// TestMemory: results share no memory with the controller, and two controllers share nothing.
func TestMemory(t *testing.T) {
	c, other := made(t, 2), made(t, 2)
	expectAttach(t, c, 1, 3, wakes(7), false, 0)
	expectAttach(t, c, 1, 4, handler, false, 1)
	expectRaise(t, c, 1, false, api.OK)
	got := c.Deliver()
	clear(got)
	expectUnmask(t, c, 1, 0, 0, api.OK)
	expectRaise(t, c, 1, false, api.OK)
	expectDeliver(t, c, to(0, 1, 3, wakes(7)), to(1, 1, 4, handler))
	expectDeliver(t, other)
	expectMasks(t, other, 1, 0, api.OK)
	expectRaise(t, other, 1, false, api.OK)
	expectDeliver(t, other)
	expectSpurious(t, other, 1, 1, api.OK)
	expectSpurious(t, c, 1, 0, api.OK)
	expectWait(t, other, 7, true, api.OK)
	expectWait(t, c, 7, false, api.OK)
}
