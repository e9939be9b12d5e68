package sporadic

// ring is a queue with a fixed number of places: the first place follows the last one, so that no item moves when the front is removed.
type ring[T any] struct {
	places []T
	front  int // the place of the first item
	count  int
}

func newRing[T any](places int) ring[T] { return ring[T]{places: make([]T, places)} }

func (r *ring[T]) empty() bool { return r.count == 0 }
func (r *ring[T]) full() bool  { return r.count == len(r.places) }

// at returns the place of item i, counted from the front.
func (r *ring[T]) at(i int) *T { return &r.places[(r.front+i)%len(r.places)] }

// first returns the place of the item at the front; the ring must not be empty.
func (r *ring[T]) first() *T { return r.at(0) }

// last returns the place of the item at the back; the ring must not be empty.
func (r *ring[T]) last() *T { return r.at(r.count - 1) }

// add puts an item at the back; the ring must not be full.
func (r *ring[T]) add(item T) {
	r.count++
	*r.last() = item
}

// drop removes the item at the front; the ring must not be empty.
func (r *ring[T]) drop() {
	r.front = (r.front + 1) % len(r.places)
	r.count--
}

// list returns the items, beginning at the front.
func (r *ring[T]) list() []T {
	list := make([]T, r.count)
	for i := range list {
		list[i] = *r.at(i)
	}
	return list
}
