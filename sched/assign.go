package sched

import (
	"slices"

	"orpiment/api"
	"orpiment/partition"
)

const masks = 1 << api.MaxProcessors // masks are less than this number

// Ranked is a thread of a ranking: its number, its last processor, and its mask.
type Ranked struct{ Number, Last, Mask int }

// Assign returns the assignment for threads in the order of a ranking.
func Assign(c partition.Config, l []Ranked, held []int) (assigned []int, e api.Errno) {
	defer func() { e = caught(recover()) }()
	must(partition.Check(c))
	require(len(l) <= api.MaxThreads, api.ErrLimit)
	var maskOf [api.MaxThreads]int // 0, which is no mask, for a thread that is not in the list
	for _, r := range l {
		require(isThread(r.Number) && never <= r.Last && r.Last < c.Processors && isMask(r.Mask), api.ErrRange)
		require(maskOf[r.Number] == 0, api.ErrTwice)
		maskOf[r.Number] = r.Mask
	}
	requireSeats(held, c.Processors, func(thread, processor int) bool {
		return isThread(thread) && hasProcessor(maskOf[thread], processor)
	})
	return assign(l, held), api.OK
}

func isMask(n int) bool                     { return 0 < n && n < masks }
func hasProcessor(mask, processor int) bool { return mask>>processor&1 == 1 }

// requireSeats fails unless a list has a thread, or none, for each processor, no thread twice, and each thread may be where it is.
func requireSeats(seats []int, processors int, may func(thread, processor int) bool) {
	require(len(seats) == processors, api.ErrInvalid)
	for processor, thread := range seats {
		if thread != idle {
			require(may(thread, processor) && !slices.Contains(seats[:processor], thread), api.ErrInvalid)
		}
	}
}

// assign returns the assignment for valid arguments.
func assign(l []Ranked, held []int) []int {
	seats := slices.Clone(held)
	for _, r := range l {
		if slices.Contains(held, r.Number) {
			continue
		}
		if processor, found := seatFor(r, seats); found {
			seats[processor] = r.Number
		}
	}
	return seats
}

// seatFor returns the processor that a thread gets, and whether it gets one.
func seatFor(r Ranked, seats []int) (int, bool) {
	isFree := func(processor int) bool { return seats[processor] == idle && hasProcessor(r.Mask, processor) }
	if r.Last != never && isFree(r.Last) {
		return r.Last, true
	}
	for processor := range seats {
		if isFree(processor) {
			return processor, true
		}
	}
	return 0, false
}
