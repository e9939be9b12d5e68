package costs_test

import (
	"math"
	"slices"
	"testing"

	"orpiment/api"
	"orpiment/costs"
)

// operationNames repeats the table of the chapter, so that a wrong number or name is found.
var operationNames = []struct {
	op   int
	name string
}{
	{costs.Send, "send"}, {costs.Receive, "receive"}, {costs.Reply, "reply"}, {costs.Read, "read"},
	{costs.Write, "write"}, {costs.Pulse, "pulse"}, {costs.Lock, "lock"}, {costs.Unlock, "unlock"},
	{costs.CondWait, "condwait"}, {costs.CondSignal, "condsignal"}, {costs.SemWait, "semwait"}, {costs.SemPost, "sempost"},
	{costs.Barrier, "barrier"}, {costs.Timer, "timer"}, {costs.Sleep, "sleep"}, {costs.Channel, "channel"},
	{costs.Interrupt, "interrupt"}, {costs.Unmask, "unmask"}, {costs.Kill, "kill"}, {costs.Priority, "priority"},
	{costs.Yield, "yield"}, {costs.Exit, "exit"}, {costs.Spawn, "spawn"}, {costs.Nop, "nop"},
}

// uniform returns a table in which each operation has the same cost.
func uniform(section, copy, cost int64) costs.Table {
	t := costs.Table{Section: section, Copy: copy}
	for op := range t.Costs {
		t.Costs[op] = cost
	}
	return t
}

// withCost returns the default table with another cost of one operation.
func withCost(op int, cost int64) costs.Table {
	t := costs.Default()
	t.Costs[op] = cost
	return t
}

func validTables() []costs.Table {
	tables := []costs.Table{
		costs.Default(), uniform(1, 0, 1), uniform(1000, 100, 1000), uniform(1000, 0, 1), uniform(7, 3, 5),
		uniform(1, 100, 1000), uniform(1000, 0, 1000), uniform(999, 1, 743), uniform(300, 1, 43),
		withCost(costs.Send, 1000), withCost(costs.Nop, 1000), withCost(costs.Barrier, 1),
	}
	mixed := costs.Default()
	for op := range mixed.Costs {
		mixed.Costs[op] = int64(op*op + 1)
	}
	return append(tables, mixed)
}

func invalidTables() []costs.Table {
	tables := []costs.Table{
		{}, uniform(0, 1, 1), uniform(-1, 1, 1), uniform(1001, 1, 1), uniform(4, -1, 1), uniform(4, 101, 1),
		uniform(4, 1, 0), uniform(4, 1, 1001), uniform(math.MaxInt64, 1, 1), uniform(math.MinInt64, 1, 1),
		uniform(4, math.MaxInt64, 1), uniform(4, math.MinInt64, 1),
	}
	for op := range costs.Ops {
		for _, cost := range []int64{0, -1, 1001, math.MaxInt64, math.MinInt64} {
			tables = append(tables, withCost(op, cost))
		}
	}
	return tables
}

// P1.1

func TestDefault(t *testing.T) {
	got := costs.Default()
	if got.Section != 4 || got.Copy != 1 {
		t.Errorf("section %d, copy %d", got.Section, got.Copy)
	}
	for op, cost := range got.Costs {
		want := int64(2)
		switch op {
		case costs.Send, costs.Receive, costs.Reply:
			want = 3
		case costs.Spawn:
			want = 8
		case costs.Nop:
			want = 1
		}
		if cost != want {
			t.Errorf("cost of %d: %d; want %d", op, cost, want)
		}
	}
}

func TestDefaultIsNewEachTime(t *testing.T) {
	first := costs.Default()
	first.Section = 9
	first.Costs[costs.Send] = 9
	if second := costs.Default(); second.Section != 4 || second.Costs[costs.Send] != 3 {
		t.Error("a change of one default table changed the next one")
	}
}

func TestCheck(t *testing.T) {
	for i, table := range validTables() {
		if e := costs.Check(table); e != api.OK {
			t.Errorf("valid table %d: %v", i, e)
		}
	}
	for i, table := range invalidTables() {
		if e := costs.Check(table); e != api.ErrRange {
			t.Errorf("invalid table %d: %v", i, e)
		}
	}
}

// P1.2

func TestOperationNumbers(t *testing.T) {
	if costs.Ops != 24 || len(operationNames) != costs.Ops {
		t.Fatalf("%d operations", costs.Ops)
	}
	for number, x := range operationNames {
		if x.op != number {
			t.Errorf("%s has the number %d; want %d", x.name, x.op, number)
		}
	}
}

func TestName(t *testing.T) {
	for _, x := range operationNames {
		if got := costs.Name(x.op); got != x.name {
			t.Errorf("Name(%d) = %q; want %q", x.op, got, x.name)
		}
	}
	for _, op := range []int{-1, costs.Ops, costs.Ops + 1, math.MaxInt, math.MinInt} {
		if got := costs.Name(op); got != "" {
			t.Errorf("Name(%d) = %q", op, got)
		}
	}
}

func TestNumber(t *testing.T) {
	for _, x := range operationNames {
		if got := costs.Number(x.name); got != x.op {
			t.Errorf("Number(%q) = %d; want %d", x.name, got, x.op)
		}
	}
	for _, name := range []string{"", "x", "Send", "SEND", "send ", " send", "sen", "sends", "send\n", "section", "copy", "ops", "0", "\xff"} {
		if got := costs.Number(name); got != -1 {
			t.Errorf("Number(%q) = %d", name, got)
		}
	}
}

// P1.3

func TestCost(t *testing.T) {
	d := costs.Default()
	for _, x := range []struct {
		table     costs.Table
		op, bytes int
		want      int64
	}{
		{d, costs.Send, 0, 3}, {d, costs.Send, 1, 4}, {d, costs.Send, 15, 4}, {d, costs.Send, 16, 4},
		{d, costs.Send, 17, 5}, {d, costs.Send, 32, 5}, {d, costs.Send, 33, 6},
		{d, costs.Nop, 0, 1}, {d, costs.Spawn, 0, 8}, {d, costs.Lock, 16, 3},
		{d, costs.Reply, api.MaxMessage - 16, 258}, {d, costs.Reply, api.MaxMessage - 15, 259}, {d, costs.Reply, api.MaxMessage, 259},
		{uniform(1, 0, 7), costs.Read, api.MaxMessage, 7},
		{uniform(1, 100, 1000), costs.Write, api.MaxMessage, 26600},
		{uniform(1, 100, 1000), costs.Write, 17, 1200},
	} {
		if got, e := costs.Cost(x.table, x.op, x.bytes); got != x.want || e != api.OK {
			t.Errorf("Cost(%d, %d) = %d, %v; want %d", x.op, x.bytes, got, e, x.want)
		}
	}
}

func TestCostOfEachOperation(t *testing.T) {
	table := costs.Default()
	for op := range table.Costs {
		table.Costs[op] = int64(100 + op)
	}
	for op := range costs.Ops {
		if got, e := costs.Cost(table, op, 0); got != int64(100+op) || e != api.OK {
			t.Errorf("Cost(%d) = %d, %v", op, got, e)
		}
	}
}

func TestCostErrors(t *testing.T) {
	d, bad := costs.Default(), uniform(0, 0, 1)
	for _, x := range []struct {
		table     costs.Table
		op, bytes int
		want      api.Errno
	}{
		{bad, costs.Send, 0, api.ErrRange}, {bad, costs.Ops, -1, api.ErrRange}, {bad, -1, 0, api.ErrRange},
		{d, costs.Ops, 0, api.ErrKind}, {d, -1, 0, api.ErrKind}, {d, math.MaxInt, 0, api.ErrKind}, {d, math.MinInt, 0, api.ErrKind},
		{d, costs.Ops, -1, api.ErrKind}, {d, -1, api.MaxMessage + 1, api.ErrKind},
		{d, costs.Send, -1, api.ErrRange}, {d, costs.Send, api.MaxMessage + 1, api.ErrRange},
		{d, costs.Nop, math.MaxInt, api.ErrRange}, {d, costs.Nop, math.MinInt, api.ErrRange},
	} {
		if got, e := costs.Cost(x.table, x.op, x.bytes); got != 0 || e != x.want {
			t.Errorf("Cost(%d, %d) = %d, %v; want 0, %v", x.op, x.bytes, got, e, x.want)
		}
	}
	for i, table := range invalidTables() {
		if got, e := costs.Cost(table, costs.Send, 0); got != 0 || e != api.ErrRange {
			t.Errorf("invalid table %d: %d, %v", i, got, e)
		}
	}
}

func TestPath(t *testing.T) {
	d := costs.Default()
	for _, x := range []struct {
		table costs.Table
		calls []costs.Call
		want  int64
	}{
		{d, nil, 0}, {d, []costs.Call{}, 0}, {d, []costs.Call{{Op: costs.Nop}}, 1},
		{d, []costs.Call{{costs.Send, 17}, {costs.Receive, 17}, {costs.Reply, 0}, {costs.Spawn, 0}}, 5 + 5 + 3 + 8},
		{d, slices.Repeat([]costs.Call{{costs.Lock, 1}}, 1000), 3000},
		{uniform(1, 100, 1000), slices.Repeat([]costs.Call{{costs.Write, api.MaxMessage}}, 1000), 26600000},
	} {
		if got, e := costs.Path(x.table, x.calls); got != x.want || e != api.OK {
			t.Errorf("Path of %d calls = %d, %v; want %d", len(x.calls), got, e, x.want)
		}
	}
}

func TestPathErrors(t *testing.T) {
	d, bad := costs.Default(), uniform(4, 101, 1)
	unknown, long, good := costs.Call{Op: costs.Ops}, costs.Call{Op: costs.Send, Bytes: api.MaxMessage + 1}, costs.Call{Op: costs.Send}
	for i, x := range []struct {
		table costs.Table
		calls []costs.Call
		want  api.Errno
	}{
		{bad, nil, api.ErrRange}, {bad, []costs.Call{unknown}, api.ErrRange}, {bad, slices.Repeat([]costs.Call{good}, 1001), api.ErrRange},
		{d, slices.Repeat([]costs.Call{good}, 1001), api.ErrLimit}, {d, slices.Repeat([]costs.Call{unknown}, 1001), api.ErrLimit},
		{d, []costs.Call{good, unknown, long}, api.ErrKind}, {d, []costs.Call{good, long, unknown}, api.ErrRange},
		{d, []costs.Call{{costs.Ops, -1}}, api.ErrKind}, {d, append(slices.Repeat([]costs.Call{good}, 999), unknown), api.ErrKind},
	} {
		if got, e := costs.Path(x.table, x.calls); got != 0 || e != x.want {
			t.Errorf("case %d: %d, %v; want 0, %v", i, got, e, x.want)
		}
	}
}

func TestPathKeepsItsArguments(t *testing.T) {
	calls := []costs.Call{{costs.Send, 17}, {costs.Nop, 0}}
	before := slices.Clone(calls)
	costs.Path(costs.Default(), calls)
	if !slices.Equal(calls, before) {
		t.Errorf("calls became %v", calls)
	}
}

// P1.4

func TestSections(t *testing.T) {
	for _, x := range []struct {
		section, n int64
		want       []int64
	}{
		{4, 1, []int64{1}}, {4, 3, []int64{3}}, {4, 4, []int64{4}}, {4, 5, []int64{4, 1}}, {4, 8, []int64{4, 4}},
		{4, 10, []int64{4, 4, 2}}, {1, 3, []int64{1, 1, 1}}, {1000, 1000, []int64{1000}}, {1000, 1001, []int64{1000, 1}},
	} {
		if got, e := costs.Sections(uniform(x.section, 1, 1), x.n); e != api.OK || !slices.Equal(got, x.want) {
			t.Errorf("Sections of %d with section %d = %v, %v; want %v", x.n, x.section, got, e, x.want)
		}
	}
	if got, e := costs.Sections(uniform(1, 0, 1), 100000); len(got) != 100000 || e != api.OK {
		t.Errorf("Sections(100000): %d sections, %v", len(got), e)
	}
}

func TestSectionsErrors(t *testing.T) {
	for _, n := range []int64{0, -1, 100001, math.MaxInt64, math.MinInt64} {
		if got, e := costs.Sections(costs.Default(), n); len(got) != 0 || e != api.ErrRange {
			t.Errorf("Sections(%d) = %v, %v", n, got, e)
		}
	}
	for i, table := range invalidTables() {
		if got, e := costs.Sections(table, 10); len(got) != 0 || e != api.ErrRange {
			t.Errorf("invalid table %d: %v, %v", i, got, e)
		}
	}
}

func TestSectionsAreNewEachTime(t *testing.T) {
	first, _ := costs.Sections(costs.Default(), 10)
	first[0] = 99
	if second, _ := costs.Sections(costs.Default(), 10); second[0] != 4 {
		t.Errorf("a change of one result changed the next one: %v", second)
	}
}

func TestPreemptible(t *testing.T) {
	d := costs.Default()
	for _, x := range []struct {
		n       int64
		allowed []int64
	}{{1, []int64{0}}, {4, []int64{0}}, {5, []int64{0, 4}}, {7, []int64{0, 4}}, {8, []int64{0, 4}}, {10, []int64{0, 4, 8}}, {12, []int64{0, 4, 8}}} {
		for done := int64(-5); done <= x.n+5; done++ {
			if got := costs.Preemptible(d, x.n, done); got != slices.Contains(x.allowed, done) {
				t.Errorf("Preemptible(%d, %d) = %v", x.n, done, got)
			}
		}
	}
	if !costs.Preemptible(d, 100000, 0) || !costs.Preemptible(d, 100000, 99996) || costs.Preemptible(d, 100000, 100000) {
		t.Error("an operation of 100000 ticks")
	}
}

func TestPreemptibleInvalid(t *testing.T) {
	d := costs.Default()
	for _, x := range []struct{ n, done int64 }{
		{0, 0}, {-1, 0}, {-1, -1}, {-8, -4}, {100001, 0}, {100001, 4}, {math.MaxInt64, 0}, {math.MinInt64, 0},
		{10, -4}, {10, 12}, {10, math.MaxInt64}, {10, math.MinInt64},
	} {
		if costs.Preemptible(d, x.n, x.done) {
			t.Errorf("Preemptible(%d, %d)", x.n, x.done)
		}
	}
	// With sections of one tick every number of ticks is a multiple of a section, so that only the range of done decides.
	single := uniform(1, 0, 1)
	for _, done := range []int64{-2, -1, 10, 11, 12} {
		if costs.Preemptible(single, 10, done) {
			t.Errorf("Preemptible(10, %d) with section 1", done)
		}
	}
	for i, table := range invalidTables() {
		if costs.Preemptible(table, 10, 0) || costs.Preemptible(table, 10, 4) {
			t.Errorf("invalid table %d", i)
		}
	}
}

func TestLongest(t *testing.T) {
	for _, x := range []struct {
		table costs.Table
		want  int64
	}{
		{costs.Default(), 4}, {uniform(1000, 0, 1), 1}, {uniform(1000, 0, 1000), 1000}, {uniform(1000, 100, 1), 1000},
		{uniform(1000, 1, 1), 257}, {uniform(1000, 1, 744), 1000}, {uniform(1000, 1, 743), 999}, {uniform(1, 100, 1000), 1},
		{func() costs.Table { t := withCost(costs.Nop, 50); t.Section, t.Copy = 1000, 0; return t }(), 50},
		{func() costs.Table { t := withCost(costs.Send, 60); t.Section, t.Copy = 1000, 0; return t }(), 60},
	} {
		if got := costs.Longest(x.table); got != x.want {
			t.Errorf("Longest with section %d, copy %d = %d; want %d", x.table.Section, x.table.Copy, got, x.want)
		}
	}
	for i, table := range invalidTables() {
		if got := costs.Longest(table); got != 0 {
			t.Errorf("invalid table %d: %d", i, got)
		}
	}
}
