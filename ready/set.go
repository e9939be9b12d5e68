package ready

import "math/bits"

const wordBits = 64

// prioritySet is a set of priorities, with a bit for each of them.
type prioritySet [priorities / wordBits]uint64

func (s *prioritySet) has(priority int) bool {
	return s[priority/wordBits]>>(priority%wordBits)&1 == 1
}

func (s *prioritySet) add(priority int) {
	s[priority/wordBits] |= 1 << (priority % wordBits)
}

func (s *prioritySet) remove(priority int) {
	s[priority/wordBits] &^= 1 << (priority % wordBits)
}

// below returns the greatest priority in the set that is less than end, or -1.
func (s *prioritySet) below(end int) int {
	for i := range len(s) {
		word := len(s) - 1 - i
		first := word * wordBits
		found := s[word] & lowest(end-first)
		if found != 0 {
			return first + bits.Len64(found) - 1
		}
	}
	return -1
}

// lowest returns a word whose lowest n bits are set: none if n is negative, all if it is greater than their number.
func lowest(n int) uint64 {
	// A shift by 64 or more leaves 0, from which subtracting 1 sets all bits.
	return 1<<max(n, 0) - 1
}
