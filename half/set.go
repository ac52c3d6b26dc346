package half

// keyBits is how many bits a key has. It is a power of two, so that it can be
// halved down to one.
const keyBits = 16

// set has at least one key; one without keys is nil. Its keys are halved into
// high and low bits: the low halves of all that have one high half are a set
// themselves, a part.
type set struct {
	// half is how many bits each half has; 0, where keys are single bits.
	half        int
	least, most int
	// parts has no part of the least key: so a first key makes no part, and a
	// call goes on in the part or in the highs, never in both.
	parts map[int]*set
	// highs are the high halves that parts has, in their order.
	highs *set
}

func (s *set) has(key int) bool {
	if s == nil || key < s.least || key > s.most {
		return false
	}
	if key == s.least || key == s.most {
		return true
	}
	high, low := s.split(key)
	return s.parts[high].has(low)
}

// with has key too; bits is how many bits key has.
func (s *set) with(key, bits int) *set {
	if s == nil {
		return &set{half: bits / 2, least: key, most: key}
	}
	if key < s.least {
		// The one that was the least till now needs a part instead.
		key, s.least = s.least, key
	}
	s.most = max(s.most, key)
	if key > s.least && s.half > 0 {
		s.addToPart(key)
	}
	return s
}

func (s *set) addToPart(key int) {
	high, low := s.split(key)
	part := s.parts[high]
	if part == nil {
		s.highs = s.highs.with(high, s.half)
	}
	if s.parts == nil {
		s.parts = map[int]*set{}
	}
	s.parts[high] = part.with(low, s.half)
}

// without has all keys but key, which is there.
func (s *set) without(key int) *set {
	if s.least == s.most {
		return nil
	}
	if s.half == 0 {
		// Both bits were there, so the other one is left.
		s.least, s.most = 1-key, 1-key
		return s
	}
	if key == s.least {
		// The least of the parts comes up in its place.
		high := s.highs.least
		key = s.join(high, s.parts[high].least)
		s.least = key
	}
	s.takeFromPart(key)
	if key == s.most {
		s.most = s.greatest()
	}
	return s
}

func (s *set) takeFromPart(key int) {
	high, low := s.split(key)
	part := s.parts[high].without(low)
	if part != nil {
		s.parts[high] = part
		return
	}
	delete(s.parts, high)
	s.highs = s.highs.without(high)
}

// greatest looks at the parts, where most is not known any more.
func (s *set) greatest() int {
	if s.highs == nil {
		return s.least
	}
	high := s.highs.most
	return s.join(high, s.parts[high].most)
}

// next is the nearest key that is more, if there is one.
func (s *set) next(key int) (int, bool) {
	switch {
	case s == nil || key >= s.most:
		return 0, false
	case key < s.least:
		return s.least, true
	case s.half == 0:
		return s.most, true
	}
	high, low := s.split(key)
	if nearest, is := s.parts[high].next(low); is {
		return s.join(high, nearest), true
	}
	// The greatest key is in a part further up, so there is a next high.
	high, _ = s.highs.next(high)
	return s.join(high, s.parts[high].least), true
}

// prev is the nearest key that is less, if there is one.
func (s *set) prev(key int) (int, bool) {
	switch {
	case s == nil || key <= s.least:
		return 0, false
	case key > s.most:
		return s.most, true
	case s.half == 0:
		return s.least, true
	}
	high, low := s.split(key)
	if nearest, is := s.parts[high].prev(low); is {
		return s.join(high, nearest), true
	}
	if high, is := s.highs.prev(high); is {
		return s.join(high, s.parts[high].most), true
	}
	// Only the least key is in no part.
	return s.least, true
}

// keys are all of them, rising.
func (s *set) keys() []int {
	if s == nil {
		return nil
	}
	l := []int{s.least}
	for key, is := s.next(s.least); is; key, is = s.next(key) {
		l = append(l, key)
	}
	return l
}

// split halves key into its high and its low bits.
func (s *set) split(key int) (int, int) {
	return key >> s.half, key & (1<<s.half - 1)
}

func (s *set) join(high, low int) int {
	return high<<s.half | low
}
