package hands

// The Keys of the HEAD and the TAIL: all others are between them, so that no
// way ends ahead of the TAIL's Key.
const (
	headKey = -1
	tailKey = 10
)

type node struct {
	key  int
	next *node
	mark bool
	// locked tells that the LOCK is somebody's; only the hand whose it is gives
	// it back, so whose it is needs not be known.
	locked bool
}

// listOf is the HEAD of a list that has keys, which rise.
func listOf(keys []int) *node {
	head := &node{key: headKey}
	last := head
	for _, key := range keys {
		last.next = &node{key: key}
		last = last.next
	}
	last.next = &node{key: tailKey}
	return head
}

// left are the keys of all nodes between head and the TAIL that have no MARK.
func (head *node) left() []int {
	var keys []int
	for n := head.next; n.key != tailKey; n = n.next {
		if !n.mark {
			keys = append(keys, n.key)
		}
	}
	return keys
}

// take takes the LOCK, and tells whether it was nobody's.
func (n *node) take() bool {
	if n.locked {
		return false
	}
	n.locked = true
	return true
}

func (n *node) free() {
	n.locked = false
}
