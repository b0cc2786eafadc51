package merge

import (
	"container/heap"

	"freshet/api"
	"freshet/block"
)

// heads is a heap of lists by their first rows: at the top is the one whose first row is the first of all that are left.
type heads struct {
	rests []*rest
	lists int
}

// rest is what is left of a list, a row at least, and which list it is.
type rest struct {
	rows []api.Row
	list int
}

// headsOf returns the heap of these lists, each of which is in order.
func headsOf(l [][]api.Row) *heads {
	h := new(heads)
	for _, rows := range l {
		if len(rows) > 0 {
			h.Push(rows)
		}
	}
	heap.Init(h)
	return h
}

// take takes the first row of all that are left; of those at one place, that of the first list.
func (h *heads) take() api.Row {
	first := heap.Pop(h).(*rest)
	r := first.rows[0]
	first.rows = first.rows[1:]
	if len(first.rows) > 0 {
		heap.Push(h, first)
	}
	return r
}

// Len returns how many lists have rows left.
func (h *heads) Len() int { return len(h.rests) }

// Less reports whether a row of one list is to be taken ahead of that of another one.
func (h *heads) Less(i, j int) bool {
	a, b := h.rests[i], h.rests[j]
	if isSamePlace(a.rows[0], b.rows[0]) {
		return a.list < b.list
	}
	return block.Order([]api.Row{a.rows[0], b.rows[0]})
}

// Swap lets two lists change places in the heap.
func (h *heads) Swap(i, j int) { h.rests[i], h.rests[j] = h.rests[j], h.rests[i] }

// Push adds a list behind the heap's other ones: a whole list gets its number now, what is left of one has the number that it got.
func (h *heads) Push(x any) {
	switch v := x.(type) {
	case []api.Row:
		h.lists++
		h.rests = append(h.rests, &rest{rows: v, list: h.lists})
	case *rest:
		h.rests = append(h.rests, v)
	}
}

// Pop removes the last list of the heap.
func (h *heads) Pop() any {
	n := len(h.rests) - 1
	last := h.rests[n]
	h.rests = h.rests[:n]
	return last
}
