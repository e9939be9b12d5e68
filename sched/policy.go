package sched

import (
	"orpiment/api"
	"orpiment/sporadic"
)

const maxSlice = 1000

// policy is what the parameters of a thread have to look like under a policy, and what a tick does in which the thread ran.
type policy struct {
	leastSlice, mostSlice int
	isServer              func(p sporadic.Params) bool
	use                   func(s *Scheduler, t *entry, now int64)
}

// policies returns the table of all policies.
func policies() [Sporadic + 1]policy {
	return [...]policy{
		FIFO:       {isServer: isNoServer, use: useNothing},
		RoundRobin: {leastSlice: 1, mostSlice: maxSlice, isServer: isNoServer, use: useSlice},
		Sporadic:   {isServer: isServer, use: useServer},
	}
}

// isValid reports whether parameters are valid where there are some partitions.
func isValid(p Params, parts int) bool {
	table := policies()
	if p.Policy < 0 || p.Policy >= len(table) {
		return false
	}
	rule := table[p.Policy]
	return rule.leastSlice <= p.Slice && p.Slice <= rule.mostSlice && rule.isServer(p.Server) &&
		isMask(p.Mask) && 0 <= p.Part && p.Part < parts
}

func isServer(p sporadic.Params) bool   { return sporadic.Check(p) == api.OK }
func isNoServer(p sporadic.Params) bool { return p == sporadic.Params{} }

// account accounts for a tick in which a thread ran on a processor.
func (s *Scheduler) account(t *entry, processor int, now int64) {
	t.Last = processor
	part := t.Params.Part
	critical := t.Params.Critical && !value(s.meter.HasBudget(now, part))
	must(s.meter.Charge(now, part, critical))
	table := policies()
	table[t.Params.Policy].use(s, t, now)
}

func useNothing(*Scheduler, *entry, int64) {}

// useSlice takes a tick of a thread's slice. No thread's charges depend on the queue, so that it may move at once.
func useSlice(s *Scheduler, t *entry, _ int64) {
	t.Left--
	if t.Left == 0 {
		s.giveWay(t)
	}
}

// useServer takes a tick of a thread's server. Without budget the thread ran at the server's low priority, for which there is no limit.
func useServer(_ *Scheduler, t *entry, now int64) {
	if value(t.server.Budget(now)) > 0 {
		must(t.server.Run(now))
	}
}
