package queue

import "container/heap"

// end is an end of a queue, as the heap whose top is what is taken there. It is made on the spot, so that a Queue that New did not make is one without prefixes, too.
type end struct {
	q    *Queue
	side int
}

// take: the one at the top, which is gone there then.
func (e end) take() *item {
	return heap.Pop(e).(*item)
}

// drop: that one is gone, wherever it stands.
func (e end) drop(one *item) {
	heap.Remove(e, one.places[e.side])
}

// Len, Less, Swap, Push and Pop are what container/heap asks for; Push and Pop are of the last place.
func (e end) Len() int {
	return len(e.q.heaps[e.side])
}

func (e end) Less(i, k int) bool {
	list := e.q.heaps[e.side]
	if e.side == shallow {
		i, k = k, i
	}
	return ahead(list[i].prefix, list[k].prefix)
}

func (e end) Swap(i, k int) {
	list := e.q.heaps[e.side]
	list[i], list[k] = list[k], list[i]
	list[i].places[e.side] = i
	list[k].places[e.side] = k
}

func (e end) Push(x any) {
	one := x.(*item)
	one.places[e.side] = e.Len()
	e.q.heaps[e.side] = append(e.q.heaps[e.side], one)
}

func (e end) Pop() any {
	list := e.q.heaps[e.side]
	last := len(list) - 1
	one := list[last]
	list[last] = nil // or the spare room would keep it
	e.q.heaps[e.side] = list[:last]
	return one
}
