// Package costs defines the cost table of the kernel: see shared/doc/01-costs.md.
package costs

import (
	"slices"

	"orpiment/api"
)

// Kernel operations.
const (
	Send = iota
	Receive
	Reply
	Read
	Write
	Pulse
	Lock
	Unlock
	CondWait
	CondSignal
	SemWait
	SemPost
	Barrier
	Timer
	Sleep
	Channel
	Interrupt
	Unmask
	Kill
	Priority
	Yield
	Exit
	Spawn
	Nop
	Ops // the number of operations
)

// Limits of this chapter.
const (
	maxSection = 1000
	maxCopy    = 100
	maxCost    = 1000
	maxCalls   = 1000
	maxTicks   = 100000 // of an operation that is divided into sections
	copyUnit   = 16     // bytes for which Copy is due once
)

// names has the name of each operation at its number.
var names = [Ops]string{
	"send", "receive", "reply", "read", "write", "pulse", "lock", "unlock",
	"condwait", "condsignal", "semwait", "sempost", "barrier", "timer", "sleep", "channel",
	"interrupt", "unmask", "kill", "priority", "yield", "exit", "spawn", "nop",
}

// Table is a cost table: the length of a section, the cost of copying 16 bytes, and the cost of each operation.
type Table struct {
	Section, Copy int64
	Costs         [Ops]int64
}

// Call is an operation and the number of bytes that it copies.
type Call struct{ Op, Bytes int }

// Default returns the default table.
func Default() Table {
	t := Table{Section: 4, Copy: 1}
	for op := range t.Costs {
		t.Costs[op] = 2
	}
	t.Costs[Send], t.Costs[Receive], t.Costs[Reply] = 3, 3, 3
	t.Costs[Spawn] = 8
	t.Costs[Nop] = 1
	return t
}

// Check reports whether a table is valid.
func Check(t Table) api.Errno {
	if !within(t.Section, 1, maxSection) || !within(t.Copy, 0, maxCopy) || t.Costs != clamped(t.Costs) {
		return api.ErrRange
	}
	return api.OK
}

// clamped moves each cost into its range: a list of costs that this leaves as it is has valid costs only.
func clamped(costs [Ops]int64) [Ops]int64 {
	for op := range costs {
		costs[op] = min(max(costs[op], 1), maxCost)
	}
	return costs
}

func within(n, least, most int64) bool { return least <= n && n <= most }

// Name returns the name of an operation, or "".
func Name(op int) string {
	if !isOperation(op) {
		return ""
	}
	return names[op]
}

func isOperation(op int) bool { return 0 <= op && op < Ops }

// Number returns the number of a name, or -1.
func Number(name string) int {
	for op, known := range names {
		if name == known {
			return op
		}
	}
	return -1
}

// Cost returns the cost of an operation in ticks.
func Cost(t Table, op, bytes int) (int64, api.Errno) {
	if Check(t) != api.OK {
		return 0, api.ErrRange
	}
	if !isOperation(op) {
		return 0, api.ErrKind
	}
	if bytes < 0 || bytes > api.MaxMessage {
		return 0, api.ErrRange
	}
	return t.Costs[op] + copying(t, bytes), api.OK
}

// copying returns what a number of bytes adds to the cost of an operation: a unit that is begun costs as much as a whole one.
func copying(t Table, bytes int) int64 {
	units := (bytes + copyUnit - 1) / copyUnit
	return t.Copy * int64(units)
}

// Sections returns the lengths of the sections of an operation of n ticks.
func Sections(t Table, n int64) ([]int64, api.Errno) {
	if !divisible(t, n) {
		return nil, api.ErrRange
	}
	var sections []int64
	for rest := n; rest > 0; rest -= t.Section {
		sections = append(sections, min(rest, t.Section))
	}
	return sections, api.OK
}

// divisible reports whether the table defines the sections of an operation of n ticks.
func divisible(t Table, n int64) bool {
	return Check(t) == api.OK && within(n, 1, maxTicks)
}

// Preemptible reports whether an operation of n ticks can be preempted after done ticks.
func Preemptible(t Table, n, done int64) bool {
	if !divisible(t, n) || !within(done, 0, n) {
		return false
	}
	// An operation that has not begun, done 0, is at the border of a section too.
	return done < n && done%t.Section == 0
}

// Longest returns the length of the longest section.
func Longest(t Table) int64 {
	if Check(t) != api.OK {
		return 0
	}
	slowest := slices.Max(t.Costs[:]) + copying(t, api.MaxMessage)
	return min(t.Section, slowest)
}

// Path returns the sum of the costs of calls.
func Path(t Table, calls []Call) (int64, api.Errno) {
	if Check(t) != api.OK {
		return 0, api.ErrRange
	}
	if len(calls) > maxCalls {
		return 0, api.ErrLimit
	}
	sum := int64(0)
	for _, call := range calls {
		cost, e := Cost(t, call.Op, call.Bytes)
		if e != api.OK {
			return 0, e
		}
		sum += cost
	}
	return sum, api.OK
}
