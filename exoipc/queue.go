package exoipc

import "slices"

// queue is things in a row, the eldest first.
type queue[T any] struct {
	items []T
}

func (q *queue[T]) length() int {
	return len(q.items)
}

// add lets the item stand behind all others.
func (q *queue[T]) add(item T) {
	q.items = append(q.items, item)
}

// take takes the eldest away, and answers whether there was one. The others move up, so that nothing of it is kept ahead of them.
func (q *queue[T]) take() (T, bool) {
	var eldest T
	if len(q.items) == 0 {
		return eldest, false
	}
	eldest = q.items[0]
	q.items = slices.Delete(q.items, 0, 1)
	return eldest, true
}

// drop takes away each item that is to go; the others stay in their order.
func (q *queue[T]) drop(goes func(T) bool) {
	q.items = slices.DeleteFunc(q.items, goes)
}
