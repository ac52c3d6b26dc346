package hands

import "hedgewright/api"

// ways has a way for each algo.
func ways() map[int]way {
	return map[int]way{
		api.HLock:  handOverHand,
		api.HLazy:  lookTwice,
		api.HMark:  useMarks,
		api.HNaive: useNothing,
	}
}

// handOverHand has always the LOCK of P, and takes that of C ahead of a look at it: P11.3.
func handOverHand(h *hand) {
	var lock, look func()
	h.next = func() {
		if h.head.take() {
			h.to(h.head)
			h.next = lock
		}
	}
	lock = func() {
		if h.c.take() {
			h.next = look
		}
	}
	look = func() {
		if h.c.key < h.key() {
			h.p.free()
			h.to(h.c)
			h.next = lock
			return
		}
		is := h.found() != (h.kind() == api.DAdd)
		switch {
		case is && h.kind() == api.DAdd:
			h.add()
		case is && h.kind() == api.DCut:
			h.unlink()
			h.c.mark = true
		}
		h.free()
		h.end(is)
	}
}

// lookTwice takes LOCKs where the way ends, and looks then whether it is still right: P11.4.
func lookTwice(h *hand) {
	var walk, lock, look, unlink func()
	h.next = func() {
		h.to(h.head)
		h.next = walk
	}
	walk = func() {
		switch {
		case h.c.key < h.key():
			h.to(h.c)
		case h.kind() == api.DHas:
			h.end(h.has())
		case h.p.take():
			h.next = lock
		}
	}
	lock = func() {
		if h.c.take() {
			h.next = look
		}
	}
	look = func() {
		switch {
		case !h.stands() || h.c.mark:
			h.free()
			h.begin()
		case h.found() == (h.kind() == api.DAdd):
			h.free()
			h.end(false)
		case h.kind() == api.DAdd:
			h.add()
			h.free()
			h.end(true)
		default:
			h.c.mark = true
			h.next = unlink
		}
	}
	unlink = func() {
		h.unlink()
		h.free()
		h.end(true)
	}
}

// useMarks changes a NEXT only where nothing came between, and no MARK tells otherwise: P11.5.
func useMarks(h *hand) {
	add := func() {
		if !h.stands() {
			h.begin()
			return
		}
		h.add()
		h.end(true)
	}
	unlink := func() {
		if h.stands() {
			h.unlink()
		}
		h.end(true)
	}
	cut := func() {
		if h.c.mark {
			h.begin()
			return
		}
		h.c.mark = true
		h.next = unlink
	}
	withoutLocks(h, add, cut)
}

// useNothing is what goes wrong without LOCKs and MARKs: P11.5.
func useNothing(h *hand) {
	add := func() {
		h.add()
		h.end(true)
	}
	cut := func() {
		h.unlink()
		h.end(true)
	}
	withoutLocks(h, add, cut)
}

// withoutLocks looks for the PLACE; add and cut are the steps behind that.
func withoutLocks(h *hand, add, cut func()) {
	look := func() {
		switch {
		case h.c.mark && h.kind() != api.DHas:
			if !h.stands() {
				h.begin()
				return
			}
			h.unlink()
			h.c = h.p.next
		case h.c.key < h.key():
			h.to(h.c)
		case h.kind() == api.DHas:
			h.end(h.has())
		case h.found() == (h.kind() == api.DAdd):
			h.end(false)
		case h.kind() == api.DAdd:
			h.next = add
		default:
			h.next = cut
		}
	}
	h.next = func() {
		h.to(h.head)
		h.next = look
	}
}
