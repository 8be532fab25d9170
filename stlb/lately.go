package stlb

import (
	"container/heap"

	"hermitage/api"
)

// used is a translation that is kept, and the number of its last use.
type used struct {
	api.Kept
	at uint64
}

// lately is translations, a heap of the library's with the one ahead that is used least lately.
// They lie in the heap itself, so that a copy of it has its own; there is one place more than there may be, for the one that is put ahead of another's going.
type lately struct {
	n   int
	all [api.MaxTlb + 1]used
}

// first takes the one out that is used least lately; false, if there is none.
func (l *lately) first() (used, bool) {
	if l.n == 0 {
		return used{}, false
	}
	x, ok := heap.Pop(l).(used)
	return x, ok
}

func (l *lately) Len() int {
	return l.n
}

func (l *lately) Less(i, j int) bool {
	return l.all[i].at < l.all[j].at
}

func (l *lately) Swap(i, j int) {
	l.all[i], l.all[j] = l.all[j], l.all[i]
}

// Push puts x behind the others, for heap.Push.
func (l *lately) Push(x any) {
	if u, ok := x.(used); ok {
		l.all[l.n] = u
		l.n++
	}
}

// Pop takes the last one out, for heap.Pop, and leaves nothing of it: what is forgotten is not kept.
func (l *lately) Pop() any {
	l.n--
	x := l.all[l.n]
	l.all[l.n] = used{}
	return x
}
