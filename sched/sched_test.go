package sched_test

import (
	"math"
	"slices"
	"testing"

	"orpiment/api"
	"orpiment/partition"
	"orpiment/sched"
	"orpiment/sporadic"
)

type (
	params    = sched.Params
	scheduler = sched.Scheduler
	state     = sched.Thread
)

const (
	idle = -1
	all  = 255 // the mask of all processors
)

var (
	wrongThreads    = []int{-1, -2, -256, api.MaxThreads, 1000, math.MaxInt, math.MinInt}
	wrongPriorities = []int{-1, -2, api.MaxPriority + 1, 1000, math.MaxInt, math.MinInt}
	wrongTimes      = []int64{-1, -2, api.MaxTime + 1, math.MaxInt64, math.MinInt64}
	wrongMasks      = []int{0, -1, -255, 256, 257, 1 << 20, math.MaxInt, math.MinInt}
)

// part returns a partition of a configuration.
func part(share, critical int) partition.Part {
	return partition.Part{Share: share, Critical: critical}
}

// config returns a configuration with a window of 100 ticks, and with one partition where none is given.
func config(processors int, parts ...partition.Part) partition.Config {
	if len(parts) == 0 {
		parts = []partition.Part{part(100, 0)}
	}
	return partition.Config{Window: 100, Processors: processors, Parts: parts}
}

func ranked(number, last, mask int) sched.Ranked {
	return sched.Ranked{Number: number, Last: last, Mask: mask}
}

func fifo() params { return params{Policy: sched.FIFO, Mask: all} }

func roundRobin(slice int) params {
	return params{Policy: sched.RoundRobin, Slice: slice, Mask: all}
}

// served returns the parameters of a Sporadic thread.
func served(budget, period int64, low int) params {
	server := sporadic.Params{Budget: budget, Period: period, Pending: 4, Low: low}
	return params{Policy: sched.Sporadic, Mask: all, Server: server}
}

// on returns parameters with another mask.
func on(mask int, p params) params {
	p.Mask = mask
	return p
}

// in returns parameters with another partition.
func in(part int, p params) params {
	p.Part = part
	return p
}

// criticalIn returns parameters of a critical thread in a partition.
func criticalIn(part int, p params) params {
	p.Critical = true
	return in(part, p)
}

func made(t *testing.T, c partition.Config) *scheduler {
	t.Helper()
	s, e := sched.New(c)
	if s == nil || e != api.OK {
		t.Fatalf("New(%v) = %v, %v", c, s, e)
	}
	return s
}

func expectError(t *testing.T, call string, got, want api.Errno) {
	t.Helper()
	if got != want {
		t.Errorf("%s: %v; want %v", call, got, want)
	}
}

func add(t *testing.T, s *scheduler, thread, priority int, p params) {
	t.Helper()
	expectError(t, "Add", s.Add(thread, priority, p), api.OK)
}

// start adds a thread and makes it ready.
func start(t *testing.T, s *scheduler, thread, priority int, p params) {
	t.Helper()
	add(t, s, thread, priority, p)
	expectError(t, "Ready", s.Ready(thread), api.OK)
}

// free is a list of held threads in which there is none.
func free(processors int) []int { return slices.Repeat([]int{idle}, processors) }

func expectPick(t *testing.T, s *scheduler, now int64, held []int, want ...int) {
	t.Helper()
	if got, e := s.Pick(now, held); !slices.Equal(got, want) || e != api.OK {
		t.Errorf("Pick(%d, %v) = %v, %v; want %v", now, held, got, e, want)
	}
}

func expectPickError(t *testing.T, s *scheduler, now int64, held []int, want api.Errno) {
	t.Helper()
	if got, e := s.Pick(now, held); len(got) != 0 || e != want {
		t.Errorf("Pick(%d, %v) = %v, %v; want %v", now, held, got, e, want)
	}
}

func charge(t *testing.T, s *scheduler, now int64, running ...int) {
	t.Helper()
	expectError(t, "Charge", s.Charge(now, running), api.OK)
}

func expectRanking(t *testing.T, s *scheduler, now int64, want ...int) {
	t.Helper()
	if got, e := s.Ranking(now); !slices.Equal(got, want) || e != api.OK {
		t.Errorf("Ranking(%d) = %v, %v; want %v", now, got, e, want)
	}
}

func expectState(t *testing.T, s *scheduler, want ...state) {
	t.Helper()
	if got := s.State(); !slices.Equal(got, want) {
		t.Errorf("State() = %v; want %v", got, want)
	}
}

// stateOf returns the state of a thread that must be there.
func stateOf(t *testing.T, s *scheduler, thread int) state {
	t.Helper()
	for _, x := range s.State() {
		if x.Number == thread {
			return x
		}
	}
	t.Fatalf("no thread %d", thread)
	return state{}
}

// ran runs one processor for some ticks, and returns the threads that ran.
func ran(t *testing.T, s *scheduler, from int64, ticks int) []int {
	t.Helper()
	var list []int
	for now := from; now < from+int64(ticks); now++ {
		picked, e := s.Pick(now, free(1))
		if e != api.OK {
			t.Fatalf("Pick(%d): %v", now, e)
		}
		charge(t, s, now, picked...)
		list = append(list, picked[0])
	}
	return list
}

func expectRan(t *testing.T, s *scheduler, from int64, want ...int) {
	t.Helper()
	if got := ran(t, s, from, len(want)); !slices.Equal(got, want) {
		t.Errorf("from %d on %v ran; want %v", from, got, want)
	}
}

// The examples.

func TestExampleFIFO(t *testing.T) {
	s := made(t, config(1))
	start(t, s, 1, 10, fifo())
	start(t, s, 2, 10, fifo())
	expectRan(t, s, 0, 1, 1, 1, 1, 1)
	expectError(t, "Yield(1)", s.Yield(1), api.OK)
	expectRan(t, s, 5, 2, 2, 2)
	expectError(t, "Block(2)", s.Block(2), api.OK)
	expectRan(t, s, 8, 1, 1)
}

func TestExampleRoundRobin(t *testing.T) {
	s := made(t, config(1))
	start(t, s, 1, 10, roundRobin(2))
	start(t, s, 2, 10, roundRobin(2))
	expectRan(t, s, 0, 1, 1, 2, 2, 1, 1, 2, 2)
}

func TestExampleTwoProcessors(t *testing.T) {
	s := made(t, config(2))
	start(t, s, 1, 10, on(1, fifo()))
	start(t, s, 2, 10, fifo())
	start(t, s, 3, 10, fifo())
	expectPick(t, s, 0, free(2), 1, 2)
}

// Two partitions of equal shares take turns, whatever the priorities are.
func TestExampleTurnsOfPartitions(t *testing.T) {
	c := config(1, part(50, 0), part(50, 0))
	c.Window = 4
	s := made(t, c)
	start(t, s, 1, 200, in(0, fifo()))
	start(t, s, 2, 10, in(1, fifo()))
	expectRan(t, s, 0, 1, 1, 2, 2, 1, 1, 2, 2, 1, 1, 2, 2)
}

// P6.1

func TestNewHasTheErrorOfCheck(t *testing.T) {
	for _, c := range []partition.Config{
		{},
		{Window: 1001, Processors: 1, Parts: []partition.Part{part(100, 0)}},
		{Window: 1, Processors: 9, Parts: []partition.Part{part(100, 0)}},
		{Window: 1, Processors: 1},
		{Window: 1, Processors: 1, Parts: make([]partition.Part, 9)},
		{Window: 1, Processors: 1, Parts: []partition.Part{part(101, 0)}},
		{Window: 1, Processors: 1, Parts: []partition.Part{part(99, 0)}},
	} {
		want := partition.Check(c)
		if s, e := sched.New(c); s != nil || e != want || e == api.OK {
			t.Errorf("New(%v) = %v, %v; want %v", c, s, e, want)
		}
		if l, e := sched.Assign(c, nil, nil); len(l) != 0 || e != want {
			t.Errorf("Assign(%v) = %v, %v; want %v", c, l, e, want)
		}
	}
}

func TestNewHasNoThreads(t *testing.T) {
	s := made(t, config(3))
	expectState(t, s)
	expectRanking(t, s, 0)
	expectPick(t, s, 0, free(3), idle, idle, idle)
	charge(t, s, 0, free(3)...)
}

// The scheduler does not depend on what becomes of its configuration.
func TestNewKeepsNoMemory(t *testing.T) {
	c := config(1, part(100, 0), part(0, 0))
	s := made(t, c)
	c.Parts[0], c.Parts[1] = c.Parts[1], c.Parts[0]
	start(t, s, 1, 10, in(1, fifo()))
	start(t, s, 2, 10, in(0, fifo()))
	expectRanking(t, s, 0, 2, 1)
}

func TestAddedThread(t *testing.T) {
	s := made(t, config(1))
	add(t, s, 255, 0, roundRobin(1000))
	add(t, s, 0, 255, fifo())
	add(t, s, 7, 20, served(5, 10, 3))
	want := []state{
		{Number: 0, Priority: 255, Last: -1, Params: fifo()},
		{Number: 7, Priority: 20, Last: -1, Params: served(5, 10, 3)},
		{Number: 255, Priority: 0, Last: -1, Left: 1000, Params: roundRobin(1000)},
	}
	expectState(t, s, want...)
	expectRanking(t, s, 0)
	expectPick(t, s, 0, free(1), idle)
	s.State()[0].Priority = 9
	expectState(t, s, want...)
}

func TestAddErrors(t *testing.T) {
	s := made(t, config(1))
	add(t, s, 1, 10, fifo())
	before := s.State()
	for _, thread := range wrongThreads {
		expectError(t, "Add of a wrong number", s.Add(thread, 10, fifo()), api.ErrRange)
		expectError(t, "Add of a wrong number with wrong parameters", s.Add(thread, 10, params{}), api.ErrRange)
	}
	for _, priority := range wrongPriorities {
		expectError(t, "Add with a wrong priority", s.Add(2, priority, fifo()), api.ErrRange)
		expectError(t, "Add of a thread with a wrong priority", s.Add(1, priority, params{}), api.ErrRange)
	}
	expectError(t, "Add of a thread that is there", s.Add(1, 10, fifo()), api.ErrExist)
	expectError(t, "Add of a thread with wrong parameters", s.Add(1, 10, params{}), api.ErrExist)
	expectError(t, "Add with wrong parameters", s.Add(2, 10, params{}), api.ErrInvalid)
	expectState(t, s, before...)
}

// invalid returns parameters that are not valid where there are two partitions.
func invalid() []params {
	server := sporadic.Params{Budget: 1, Period: 1, Pending: 1}
	list := []params{
		{},
		{Policy: -1, Mask: all},
		{Policy: 3, Mask: all},
		{Policy: 3, Mask: all, Slice: 5, Server: server},
		{Policy: math.MaxInt, Mask: all},
		{Policy: math.MinInt, Mask: all},
		{Policy: sched.FIFO, Mask: all, Slice: 1},
		{Policy: sched.FIFO, Mask: all, Slice: -1},
		{Policy: sched.FIFO, Mask: all, Server: server},
		{Policy: sched.FIFO, Mask: all, Server: sporadic.Params{Low: 1}},
		{Policy: sched.FIFO, Mask: all, Part: 2},
		{Policy: sched.FIFO, Mask: all, Part: -1},
		{Policy: sched.FIFO, Mask: all, Part: math.MaxInt},
		{Policy: sched.FIFO, Mask: all, Part: math.MinInt},
		{Policy: sched.RoundRobin, Mask: all},
		{Policy: sched.RoundRobin, Mask: all, Slice: -1},
		{Policy: sched.RoundRobin, Mask: all, Slice: 1001},
		{Policy: sched.RoundRobin, Mask: all, Slice: math.MaxInt},
		{Policy: sched.RoundRobin, Mask: all, Slice: 1, Server: server},
		{Policy: sched.RoundRobin, Slice: 1},
		{Policy: sched.RoundRobin, Mask: all, Slice: 1, Part: 2},
		{Policy: sched.Sporadic, Mask: all},
		{Policy: sched.Sporadic, Mask: all, Slice: 1, Server: server},
		{Policy: sched.Sporadic, Mask: all, Slice: -1, Server: server},
		{Policy: sched.Sporadic, Mask: all, Server: sporadic.Params{Budget: 2, Period: 1, Pending: 1}},
		{Policy: sched.Sporadic, Mask: all, Server: sporadic.Params{Budget: 1, Period: 1, Pending: 33}},
		{Policy: sched.Sporadic, Mask: all, Server: sporadic.Params{Budget: 1, Period: 1, Pending: 1, Low: 256}},
		{Policy: sched.Sporadic, Server: server},
		{Policy: sched.Sporadic, Mask: all, Part: -1, Server: server},
	}
	for _, mask := range wrongMasks {
		list = append(list, params{Policy: sched.FIFO, Mask: mask})
	}
	return list
}

// valid returns parameters at the borders of their ranges where there are two partitions.
func valid() []params {
	return []params{
		{Policy: sched.FIFO, Mask: 1},
		{Policy: sched.FIFO, Mask: 128},
		{Policy: sched.FIFO, Mask: all, Part: 1, Critical: true},
		{Policy: sched.RoundRobin, Mask: 1, Slice: 1},
		{Policy: sched.RoundRobin, Mask: all, Slice: 1000, Part: 1},
		{Policy: sched.Sporadic, Mask: 1, Server: sporadic.Params{Budget: 1, Period: 1, Pending: 1}},
		{Policy: sched.Sporadic, Mask: all, Part: 1, Critical: true, Server: sporadic.Params{Budget: 1000000, Period: 1000000, Pending: 32, Low: 255}},
	}
}

func TestParameters(t *testing.T) {
	s := made(t, config(1, part(50, 0), part(50, 0)))
	add(t, s, 1, 10, fifo())
	for _, p := range invalid() {
		if e := s.Add(2, 10, p); e != api.ErrInvalid {
			t.Errorf("Add with %v: %v", p, e)
		}
		if e := s.SetParams(1, p); e != api.ErrInvalid {
			t.Errorf("SetParams with %v: %v", p, e)
		}
	}
	expectState(t, s, state{Number: 1, Priority: 10, Last: -1, Params: fifo()})
	for _, p := range valid() {
		if e := s.Add(2, 10, p); e != api.OK {
			t.Errorf("Add with %v: %v", p, e)
		}
		expectError(t, "SetParams", s.SetParams(1, p), api.OK)
		expectState(t, s,
			state{Number: 1, Priority: 10, Last: -1, Left: p.Slice, Params: p},
			state{Number: 2, Priority: 10, Last: -1, Left: p.Slice, Params: p})
		expectError(t, "Remove", s.Remove(2), api.OK)
	}
}

// expectNoProcess checks the calls for a thread that is not there.
func expectNoProcess(t *testing.T, s *scheduler, thread int) {
	t.Helper()
	expectError(t, "Remove", s.Remove(thread), api.ErrNoProcess)
	expectError(t, "Ready", s.Ready(thread), api.ErrNoProcess)
	expectError(t, "Block", s.Block(thread), api.ErrNoProcess)
	expectError(t, "Yield", s.Yield(thread), api.ErrNoProcess)
	expectError(t, "SetPriority", s.SetPriority(thread, 10), api.ErrNoProcess)
	expectError(t, "SetParams", s.SetParams(thread, fifo()), api.ErrNoProcess)
	expectError(t, "SetParams with wrong parameters", s.SetParams(thread, params{}), api.ErrNoProcess)
	for _, priority := range wrongPriorities {
		expectError(t, "SetPriority to a wrong one", s.SetPriority(thread, priority), api.ErrRange)
	}
}

func TestNoProcess(t *testing.T) {
	s := made(t, config(1))
	start(t, s, 1, 10, fifo())
	for _, thread := range append([]int{0, 2, 255}, wrongThreads...) {
		expectNoProcess(t, s, thread)
	}
	expectState(t, s, state{Number: 1, Priority: 10, Ready: true, Last: -1, Params: fifo()})
}

func TestRemove(t *testing.T) {
	s := made(t, config(1))
	start(t, s, 1, 10, served(1, 10, 0))
	start(t, s, 2, 10, fifo())
	add(t, s, 3, 10, fifo())
	charge(t, s, 0, 1)
	expectRanking(t, s, 1, 2, 1)
	expectError(t, "Remove of a ready thread", s.Remove(1), api.OK)
	expectError(t, "Remove of a blocked thread", s.Remove(3), api.OK)
	expectNoProcess(t, s, 1)
	expectNoProcess(t, s, 3)
	expectState(t, s, state{Number: 2, Priority: 10, Ready: true, Last: -1, Params: fifo()})
	expectRanking(t, s, 1, 2)
	// The number is free for a thread that has nothing of the earlier one: its server has the full budget.
	add(t, s, 1, 20, served(1, 10, 0))
	expectState(t, s,
		state{Number: 1, Priority: 20, Last: -1, Params: served(1, 10, 0)},
		state{Number: 2, Priority: 10, Ready: true, Last: -1, Params: fifo()})
	expectError(t, "Ready", s.Ready(1), api.OK)
	expectRanking(t, s, 1, 1, 2)
}

func TestSetParamsFillsTheSlice(t *testing.T) {
	s := made(t, config(2))
	start(t, s, 1, 10, roundRobin(5))
	start(t, s, 2, 10, fifo())
	charge(t, s, 0, idle, 1)
	expectError(t, "SetParams", s.SetParams(1, roundRobin(5)), api.OK)
	want := state{Number: 1, Priority: 10, Ready: true, Last: 1, Left: 5, Params: roundRobin(5)}
	if got := stateOf(t, s, 1); got != want {
		t.Errorf("the thread is %v; want %v", got, want)
	}
	expectRanking(t, s, 1, 1, 2)
	expectError(t, "SetParams", s.SetParams(1, on(1, roundRobin(7))), api.OK)
	if got := stateOf(t, s, 1); got.Left != 7 || got.Last != 1 {
		t.Errorf("the thread is %v", got)
	}
	expectPick(t, s, 1, free(2), 1, 2)
	expectError(t, "SetParams", s.SetParams(1, fifo()), api.OK)
	if got := stateOf(t, s, 1); got.Left != 0 {
		t.Errorf("the thread is %v", got)
	}
}

func TestSetParamsMakesANewServer(t *testing.T) {
	s := made(t, config(1))
	start(t, s, 1, 10, served(1, 50, 3))
	start(t, s, 2, 5, fifo())
	charge(t, s, 0, 1)
	expectRanking(t, s, 1, 2, 1)
	expectError(t, "SetParams", s.SetParams(1, served(1, 50, 3)), api.OK)
	expectRanking(t, s, 1, 1, 2)
	charge(t, s, 1, 1)
	expectRanking(t, s, 2, 2, 1)
	expectError(t, "SetParams", s.SetParams(1, fifo()), api.OK)
	expectRanking(t, s, 2, 1, 2)
	charge(t, s, 2, 1)
	expectRanking(t, s, 3, 1, 2)
	// A thread that was no Sporadic one begins with the full budget.
	expectError(t, "SetParams", s.SetParams(2, served(2, 50, 0)), api.OK)
	charge(t, s, 3, 2)
	expectError(t, "SetPriority", s.SetPriority(2, 20), api.OK)
	expectRanking(t, s, 4, 2, 1)
	charge(t, s, 4, 2)
	expectRanking(t, s, 5, 1, 2)
}

// The place in the queue stays, also among threads of other policies.
func TestSetParamsKeepsThePosition(t *testing.T) {
	s := made(t, config(1, part(50, 0), part(50, 0)))
	for thread := range 5 {
		start(t, s, thread, 10, fifo())
	}
	for _, p := range valid() {
		p.Part = 0
		expectError(t, "SetParams", s.SetParams(2, p), api.OK)
		expectRanking(t, s, 0, 0, 1, 2, 3, 4)
	}
}

func TestSetParamsOfABlockedThread(t *testing.T) {
	s := made(t, config(1))
	add(t, s, 1, 10, fifo())
	expectError(t, "SetParams", s.SetParams(1, roundRobin(3)), api.OK)
	expectState(t, s, state{Number: 1, Priority: 10, Last: -1, Left: 3, Params: roundRobin(3)})
	expectRanking(t, s, 0)
}

// P6.2

func TestReadyAndBlock(t *testing.T) {
	s := made(t, config(1))
	for thread := range 3 {
		start(t, s, thread, 10, roundRobin(4))
	}
	expectError(t, "Ready of a ready thread", s.Ready(1), api.ErrState)
	expectRanking(t, s, 0, 0, 1, 2)
	charge(t, s, 0, 1)
	expectError(t, "Block", s.Block(1), api.OK)
	// A blocked thread has the rest of its slice until it is ready again.
	want := state{Number: 1, Priority: 10, Left: 3, Params: roundRobin(4)}
	if got := stateOf(t, s, 1); got != want {
		t.Errorf("the blocked thread is %v; want %v", got, want)
	}
	expectRanking(t, s, 1, 0, 2)
	expectError(t, "Block of a blocked thread", s.Block(1), api.ErrState)
	expectError(t, "Yield of a blocked thread", s.Yield(1), api.ErrState)
	if got := stateOf(t, s, 1); got != want {
		t.Errorf("the blocked thread is %v; want %v", got, want)
	}
	expectError(t, "Ready", s.Ready(1), api.OK)
	want.Ready, want.Left = true, 4
	if got := stateOf(t, s, 1); got != want {
		t.Errorf("the ready thread is %v; want %v", got, want)
	}
	expectRanking(t, s, 1, 0, 2, 1)
}

func TestYield(t *testing.T) {
	s := made(t, config(1))
	start(t, s, 1, 10, roundRobin(4))
	start(t, s, 2, 10, fifo())
	start(t, s, 3, 5, fifo())
	start(t, s, 4, 20, fifo())
	charge(t, s, 0, 1)
	expectRanking(t, s, 1, 4, 1, 2, 3)
	expectError(t, "Yield", s.Yield(1), api.OK)
	want := state{Number: 1, Priority: 10, Ready: true, Left: 4, Params: roundRobin(4)}
	if got := stateOf(t, s, 1); got != want {
		t.Errorf("the thread is %v; want %v", got, want)
	}
	expectRanking(t, s, 1, 4, 2, 1, 3)
	// Alone with its priority, a thread goes on.
	expectError(t, "Yield", s.Yield(4), api.OK)
	expectRanking(t, s, 1, 4, 2, 1, 3)
}

func TestSetPriority(t *testing.T) {
	s := made(t, config(1))
	start(t, s, 1, 10, roundRobin(4))
	start(t, s, 2, 10, fifo())
	start(t, s, 3, 20, fifo())
	add(t, s, 4, 10, fifo())
	charge(t, s, 0, 1)
	for _, priority := range wrongPriorities {
		expectError(t, "SetPriority", s.SetPriority(1, priority), api.ErrRange)
	}
	// The same priority moves nothing.
	expectError(t, "SetPriority", s.SetPriority(1, 10), api.OK)
	expectRanking(t, s, 1, 3, 1, 2)
	expectError(t, "SetPriority", s.SetPriority(1, 20), api.OK)
	expectRanking(t, s, 1, 3, 1, 2)
	expectError(t, "SetPriority", s.SetPriority(1, 10), api.OK)
	expectRanking(t, s, 1, 3, 2, 1)
	if got := stateOf(t, s, 1); got.Left != 3 || got.Priority != 10 {
		t.Errorf("the thread is %v", got)
	}
	expectError(t, "SetPriority of a blocked thread", s.SetPriority(4, 255), api.OK)
	if got := stateOf(t, s, 4); got.Ready || got.Priority != 255 {
		t.Errorf("the thread is %v", got)
	}
	expectRanking(t, s, 1, 3, 2, 1)
	expectError(t, "Ready", s.Ready(4), api.OK)
	expectError(t, "SetPriority", s.SetPriority(3, 0), api.OK)
	expectRanking(t, s, 1, 4, 2, 1, 3)
}

// A thread that leaves its priority for a moment stands behind those that did not, also without any time in between.
func TestSetPriorityThereAndBack(t *testing.T) {
	s := made(t, config(1))
	start(t, s, 1, 10, fifo())
	start(t, s, 2, 10, fifo())
	expectError(t, "SetPriority", s.SetPriority(1, 11), api.OK)
	expectError(t, "SetPriority", s.SetPriority(1, 10), api.OK)
	expectRanking(t, s, 0, 2, 1)
}

// The server of a thread does not depend on its priority or its state.
func TestServerStays(t *testing.T) {
	s := made(t, config(1))
	start(t, s, 1, 10, served(2, 50, 3))
	start(t, s, 2, 5, fifo())
	charge(t, s, 0, 1)
	expectError(t, "SetPriority", s.SetPriority(1, 20), api.OK)
	expectError(t, "Block", s.Block(1), api.OK)
	expectError(t, "Ready", s.Ready(1), api.OK)
	expectError(t, "Yield", s.Yield(1), api.OK)
	expectRanking(t, s, 1, 1, 2)
	charge(t, s, 1, 1)
	expectRanking(t, s, 2, 2, 1)
	expectError(t, "SetPriority", s.SetPriority(1, 30), api.OK)
	expectError(t, "Block", s.Block(1), api.OK)
	expectError(t, "Ready", s.Ready(1), api.OK)
	expectRanking(t, s, 3, 2, 1)
	// Low is a limit and no priority of its own.
	expectError(t, "SetPriority", s.SetPriority(1, 1), api.OK)
	expectError(t, "SetPriority", s.SetPriority(2, 2), api.OK)
	expectRanking(t, s, 4, 2, 1)
}
