package blob

import (
	"container/heap"

	"entrepot/api"
	"entrepot/sha"
)

// digests is a heap of digests, the least one on top.
type digests []api.ID

// Len returns the number of digests.
func (l digests) Len() int { return len(l) }

// Less reports whether a digest is before another one.
func (l digests) Less(i, j int) bool { return sha.Compare(l[i], l[j]) < 0 }

// Swap exchanges two digests.
func (l digests) Swap(i, j int) { l[i], l[j] = l[j], l[i] }

// Push puts a digest at the end.
func (l *digests) Push(x any) { *l = append(*l, x.(api.ID)) }

// Pop takes the digest at the end away.
func (l *digests) Pop() any {
	end := len(*l) - 1
	id := (*l)[end]
	*l = (*l)[:end]
	return id
}

// inOrder returns the digests of blobs, in their order.
func inOrder(blobs map[api.ID]*stored) []api.ID {
	top := &digests{}
	for id := range blobs {
		heap.Push(top, id)
	}
	ids := make([]api.ID, 0, len(blobs))
	for top.Len() > 0 {
		ids = append(ids, heap.Pop(top).(api.ID))
	}
	return ids
}
