package hands

import (
	"slices"

	"hedgewright/api"
)

// model is what the answers are held against: its nodes are numbers, and each
// hand keeps the number of the sentence that it is at.
type model struct {
	algo  int
	keys  []int
	nexts []int
	marks []bool
	locks []int // whose, or -1
	hands []modelHand
}

type modelHand struct {
	deeds []api.Deed
	done  []api.Done
	began bool
	at    int // a sentence; 0 is the first one
	p, c  int
}

func modelRun(algo int, start []int, progs [][]api.Deed, order []int, most int) api.Told {
	m := &model{algo: algo}
	for i, key := range slices.Concat([]int{-1}, start, []int{10}) {
		m.node(key, i+1)
	}
	for _, deeds := range progs {
		m.hands = append(m.hands, modelHand{deeds: deeds})
	}
	number := 0
	for _, who := range order {
		if slices.Contains(m.busy(), who) && number < most {
			m.step(who, number)
			number++
		}
	}
	for len(m.busy()) > 0 && number < most {
		for who := range m.hands {
			if slices.Contains(m.busy(), who) && number < most {
				m.step(who, number)
				number++
			}
		}
	}
	return m.told()
}

func (m *model) node(key, next int) int {
	m.keys, m.nexts, m.marks, m.locks = append(m.keys, key), append(m.nexts, next), append(m.marks, false), append(m.locks, -1)
	return len(m.keys) - 1
}

func (m *model) busy() []int {
	var busy []int
	for who, h := range m.hands {
		if h.began || len(h.done) < len(h.deeds) {
			busy = append(busy, who)
		}
	}
	return busy
}

func (m *model) told() api.Told {
	var told api.Told
	for _, h := range m.hands {
		told.Done = append(told.Done, h.done...)
	}
	for n := m.nexts[0]; m.keys[n] != 10; n = m.nexts[n] {
		if !m.marks[n] {
			told.Left = append(told.Left, m.keys[n])
		}
	}
	return told
}

func (m *model) step(who, number int) {
	h := &m.hands[who]
	if !h.began {
		h.done = append(h.done, api.Done{Who: who, Deed: len(h.done), Begin: number, End: -1})
		h.began, h.at = true, 0
	}
	last := len(h.done) - 1
	var ended, is bool
	switch m.algo {
	case api.HLock:
		ended, is = m.lockStep(h, who, h.deeds[last])
	case api.HLazy:
		ended, is = m.lazyStep(h, who, h.deeds[last])
	default:
		ended, is = m.markStep(h, h.deeds[last])
	}
	if ended {
		h.began, h.done[last].End, h.done[last].Is = false, number, is
	}
}

func (m *model) take(n, who int) bool {
	if m.locks[n] != -1 {
		return false
	}
	m.locks[n] = who
	return true
}

func (m *model) free(h *modelHand) {
	m.locks[h.p], m.locks[h.c] = -1, -1
}

func (m *model) lockStep(h *modelHand, who int, d api.Deed) (ended, is bool) {
	switch h.at {
	case 0:
		if m.take(0, who) {
			h.p, h.c, h.at = 0, m.nexts[0], 1
		}
		return false, false
	case 1:
		if m.take(h.c, who) {
			h.at = 2
		}
		return false, false
	}
	if m.keys[h.c] < d.Key {
		m.locks[h.p] = -1
		h.p, h.c, h.at = h.c, m.nexts[h.c], 1
		return false, false
	}
	there := m.keys[h.c] == d.Key
	m.free(h)
	switch d.Kind {
	case api.DAdd:
		if !there {
			m.nexts[h.p] = m.node(d.Key, h.c)
		}
		return true, !there
	case api.DCut:
		if there {
			m.nexts[h.p], m.marks[h.c] = m.nexts[h.c], true
		}
	}
	return true, there
}

func (m *model) lazyStep(h *modelHand, who int, d api.Deed) (ended, is bool) {
	switch h.at {
	case 0:
		h.p, h.c, h.at = 0, m.nexts[0], 1
		return false, false
	case 1:
		if m.keys[h.c] < d.Key {
			h.p, h.c = h.c, m.nexts[h.c]
			return false, false
		}
		if d.Kind == api.DHas {
			return true, m.keys[h.c] == d.Key && !m.marks[h.c]
		}
		if m.take(h.p, who) {
			h.at = 2
		}
		return false, false
	case 2:
		if m.take(h.c, who) {
			h.at = 3
		}
		return false, false
	case 4:
		m.nexts[h.p] = m.nexts[h.c]
		m.free(h)
		return true, true
	}
	if m.marks[h.p] || m.marks[h.c] || m.nexts[h.p] != h.c {
		m.free(h)
		h.at = 0
		return false, false
	}
	if d.Kind == api.DAdd {
		m.free(h)
		if m.keys[h.c] == d.Key {
			return true, false
		}
		m.nexts[h.p] = m.node(d.Key, h.c)
		return true, true
	}
	if m.keys[h.c] != d.Key {
		m.free(h)
		return true, false
	}
	m.marks[h.c], h.at = true, 4
	return false, false
}

// markStep is of HMark and of HNaive.
func (m *model) markStep(h *modelHand, d api.Deed) (ended, is bool) {
	switch h.at {
	case 0:
		h.p, h.c, h.at = 0, m.nexts[0], 1
		return false, false
	case 1:
		return m.markLook(h, d)
	case 2:
		return m.markChange(h, d)
	}
	if !m.marks[h.p] && m.nexts[h.p] == h.c {
		m.nexts[h.p] = m.nexts[h.c]
	}
	return true, true
}

func (m *model) markLook(h *modelHand, d api.Deed) (ended, is bool) {
	if m.marks[h.c] && d.Kind != api.DHas {
		if m.marks[h.p] || m.nexts[h.p] != h.c {
			h.at = 0
			return false, false
		}
		m.nexts[h.p] = m.nexts[h.c]
		h.c = m.nexts[h.c]
		return false, false
	}
	if m.keys[h.c] < d.Key {
		h.p, h.c = h.c, m.nexts[h.c]
		return false, false
	}
	there := m.keys[h.c] == d.Key
	if d.Kind == api.DHas {
		return true, there && !m.marks[h.c]
	}
	if d.Kind == api.DAdd && there || d.Kind == api.DCut && !there {
		return true, false
	}
	h.at = 2
	return false, false
}

func (m *model) markChange(h *modelHand, d api.Deed) (ended, is bool) {
	if m.algo == api.HNaive {
		if d.Kind == api.DAdd {
			m.nexts[h.p] = m.node(d.Key, h.c)
		} else {
			m.nexts[h.p] = m.nexts[h.c]
		}
		return true, true
	}
	if d.Kind == api.DAdd {
		if m.marks[h.p] || m.nexts[h.p] != h.c {
			h.at = 0
			return false, false
		}
		m.nexts[h.p] = m.node(d.Key, h.c)
		return true, true
	}
	if m.marks[h.c] {
		h.at = 0
		return false, false
	}
	m.marks[h.c], h.at = true, 3
	return false, false
}

// behindEachOther tells whether some order of all deeds, in which none is ahead
// of one that had its END ahead of its beginning, answers alike, where one deed is done
// behind the other, and leaves the same keys.
func behindEachOther(start []int, progs [][]api.Deed, told api.Told) bool {
	var there, left uint
	for _, key := range start {
		there |= 1 << key
	}
	for _, key := range told.Left {
		left |= 1 << key
	}
	rest := make([][]api.Done, len(progs))
	for _, d := range told.Done {
		rest[d.Who] = append(rest[d.Who], d)
	}
	type state struct {
		at    [maxHands]int
		there uint
	}
	seen := map[state]bool{}
	var try func(s state) bool
	try = func(s state) bool {
		if seen[s] {
			return false
		}
		seen[s] = true
		first := -1 // the least End of all that are not done yet
		for who, l := range rest {
			if s.at[who] < len(l) && (first < 0 || l[s.at[who]].End < first) {
				first = l[s.at[who]].End
			}
		}
		if first < 0 {
			return s.there == left
		}
		for who, l := range rest {
			if s.at[who] == len(l) || l[s.at[who]].Begin > first {
				continue
			}
			done := l[s.at[who]]
			is, next := doAlone(progs[who][done.Deed], s.there)
			if is != done.Is {
				continue
			}
			behind := s
			behind.at[who]++
			behind.there = next
			if try(behind) {
				return true
			}
		}
		return false
	}
	return try(state{there: there})
}

// doAlone answers d where nobody else is, and tells what is there behind it.
func doAlone(d api.Deed, there uint) (bool, uint) {
	is := there>>d.Key&1 == 1
	switch d.Kind {
	case api.DAdd:
		return !is, there | 1<<d.Key
	case api.DCut:
		return is, there &^ (1 << d.Key)
	}
	return is, there
}
