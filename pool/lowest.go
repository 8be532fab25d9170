package pool

import (
	"container/heap"

	"hermitage/api"
)

// lowest is frames' numbers, a heap of the library's with the lowest one ahead.
// They lie in the heap itself, so that a copy of a pool has heaps of its own; a frame is in one at most, so that all have room.
type lowest struct {
	n       int
	numbers [api.MaxFrames]int
}

// first takes the lowest one out; false, if there is none.
func (l *lowest) first() (int, bool) {
	if l.n == 0 {
		return 0, false
	}
	f, ok := heap.Pop(l).(int)
	return f, ok
}

func (l *lowest) Len() int {
	return l.n
}

func (l *lowest) Less(i, j int) bool {
	return l.numbers[i] < l.numbers[j]
}

func (l *lowest) Swap(i, j int) {
	l.numbers[i], l.numbers[j] = l.numbers[j], l.numbers[i]
}

// Push puts x behind the others, for heap.Push.
func (l *lowest) Push(x any) {
	if f, ok := x.(int); ok {
		l.numbers[l.n] = f
		l.n++
	}
}

// Pop takes the last one out, for heap.Pop.
func (l *lowest) Pop() any {
	l.n--
	return l.numbers[l.n]
}
