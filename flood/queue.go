package flood

import (
	"container/heap"

	"musterfield/api"
)

// stop is a cell, and what it costs to come to it.
type stop struct {
	cell api.Cell
	cost int
}

// queue has stops wait, the cheapest one at its head. Of stops that cost the
// same any one is first: what they all come to does not hang on it.
type queue []stop

// next takes the cheapest stop out.
func (q *queue) next() stop { return heap.Pop(q).(stop) }

func (q queue) Len() int { return len(q) }

func (q queue) Less(i, j int) bool { return q[i].cost < q[j].cost }

func (q queue) Swap(i, j int) { q[i], q[j] = q[j], q[i] }

// Push lays a stop behind all others, from where the heap sorts it in.
func (q *queue) Push(x any) { *q = append(*q, x.(stop)) }

// Pop takes the last stop, to which the heap has moved the cheapest one.
func (q *queue) Pop() any {
	last := len(*q) - 1
	s := (*q)[last]
	*q = (*q)[:last]
	return s
}
