package sched

import (
	"cmp"
	"slices"
)

// candidate is a ready thread with what decides about its rank at a time.
type candidate struct {
	Ranked
	eligible       bool
	priority, part int
}

// ranked returns the ready threads in the order of the ranking.
func (s *Scheduler) ranked(now int64) []Ranked {
	var list []candidate
	for _, number := range s.queue.Order() {
		list = append(list, s.candidate(s.threads[number], now))
	}
	// The list has the order of the queue, and keeps it among threads that are equal.
	sortBy(list, byEligibility, byPriority, func(a, b candidate) int { return s.byUsage(a, b, now) })
	ranked := make([]Ranked, len(list))
	for i, c := range list {
		ranked[i] = c.Ranked
	}
	return ranked
}

func (s *Scheduler) candidate(t *entry, now int64) candidate {
	return candidate{
		Ranked:   Ranked{Number: t.Number, Last: t.Last, Mask: t.Params.Mask},
		eligible: s.isEligible(t, now),
		priority: t.currentPriority(now),
		part:     t.Params.Part,
	}
}

func (s *Scheduler) isEligible(t *entry, now int64) bool {
	part := t.Params.Part
	return value(s.meter.HasBudget(now, part)) || t.Params.Critical && !value(s.meter.Bankrupt(now, part))
}

// sortBy sorts a list by comparisons, of which a later one counts where the earlier ones find two items equal; where all do, the items keep their order.
func sortBy[T any](list []T, comparisons ...func(a, b T) int) {
	slices.SortStableFunc(list, func(a, b T) int {
		for _, compare := range comparisons {
			if order := compare(a, b); order != 0 {
				return order
			}
		}
		return 0
	})
}

func byEligibility(a, b candidate) int {
	switch {
	case a.eligible == b.eligible:
		return 0
	case a.eligible:
		return -1
	}
	return 1
}

func byPriority(a, b candidate) int { return cmp.Compare(b.priority, a.priority) }

// byUsage compares the partitions of threads; a partition is equal to itself in the usage order too.
func (s *Scheduler) byUsage(a, b candidate, now int64) int {
	return value(s.meter.Compare(now, a.part, b.part))
}
