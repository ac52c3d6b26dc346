package hands

import "hedgewright/api"

// way makes a hand ready to begin the deed that it is at.
type way func(*hand)

// hand does deeds, one behind the other.
type hand struct {
	who   int
	deeds []api.Deed
	done  []api.Done // of the deeds that were begun; the last one is what it is at
	way   way
	head  *node
	p, c  *node // the PLACE
	// next is what it does in its next step. A step that leaves it as it is will
	// be done again; with none the hand is between two deeds.
	next func()
	is   bool
}

func (h *hand) hasDeeds() bool {
	return h.next != nil || len(h.done) < len(h.deeds)
}

// step does the next step of h, which has deeds left; number is that of the step.
func (h *hand) step(number int) {
	if h.next == nil {
		h.done = append(h.done, api.Done{Who: h.who, Deed: len(h.done), Begin: number, End: -1})
		h.begin()
	}
	h.next()
	if h.next == nil {
		now := &h.done[len(h.done)-1]
		now.End, now.Is = number, h.is
	}
}

// begin makes it as it was at the beginning of the deed: nothing is done in this step any more.
func (h *hand) begin() {
	h.way(h)
}

func (h *hand) end(is bool) {
	h.next, h.is = nil, is
}

func (h *hand) kind() int {
	return h.deeds[len(h.done)-1].Kind
}

func (h *hand) key() int {
	return h.deeds[len(h.done)-1].Key
}

// to makes p the P of the PLACE.
func (h *hand) to(p *node) {
	h.p, h.c = p, p.next
}

// found tells whether the PLACE is that of a node with the deed's key.
func (h *hand) found() bool {
	return h.c.key == h.key()
}

// has is the answer to DHas where LOCKs are not asked for.
func (h *hand) has() bool {
	return h.found() && !h.c.mark
}

// stands tells whether nothing came between P and C, and P is still there.
func (h *hand) stands() bool {
	return !h.p.mark && h.p.next == h.c
}

func (h *hand) add() {
	h.p.next = &node{key: h.key(), next: h.c}
}

func (h *hand) unlink() {
	h.p.next = h.c.next
}

func (h *hand) free() {
	h.p.free()
	h.c.free()
}
