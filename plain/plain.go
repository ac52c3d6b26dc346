// Package plain: what a map answers: see doc/01-plain.md.
package plain

import "hedgewright/api"

// Check tells whether l is a map: P1.1.
func Check(l []api.Pair) api.Errno {
	if len(l) > api.MaxKeys {
		return api.ErrLarge
	}
	for i, p := range l {
		if !isKey(p.Key) || i > 0 && l[i-1].Key >= p.Key {
			return api.ErrForm
		}
	}
	return api.OK
}

// Do answers o, asked of the map l, and tells the map behind it: P1.2, P1.3.
func Do(l []api.Pair, o api.Op) ([]api.Pair, api.Ans) {
	if err := Check(l); err != api.OK {
		return nil, api.Ans{Err: err}
	}
	if !isOp(o) {
		return copyOf(l), api.Ans{Err: api.ErrArg}
	}
	switch o.Kind {
	case api.KPut:
		return put(l, o.Key, o.Value)
	case api.KCut:
		return cut(l, o.Key)
	}
	return copyOf(l), look(l, o)
}

// Run answers all ops, from the empty map on: P1.4.
func Run(ops []api.Op) ([]api.Pair, []api.Ans, api.Errno) {
	if len(ops) > api.MaxOps {
		return nil, nil, api.ErrLarge
	}
	var l []api.Pair
	answers := make([]api.Ans, len(ops))
	for i, o := range ops {
		l, answers[i] = Do(l, o)
	}
	return l, answers, api.OK
}

func isKey(key int) bool {
	return key >= 0 && key <= api.MaxKey
}

func isOp(o api.Op) bool {
	switch o.Kind {
	case api.KPut, api.KGet, api.KCut, api.KNext, api.KPrev:
		return isKey(o.Key)
	case api.KCount, api.KNth:
		// Here Key is a bound or a place, so any number will do.
		return true
	}
	return false
}

func put(l []api.Pair, key, value int) ([]api.Pair, api.Ans) {
	place := countBelow(l, key)
	if hasAt(l, place, key) {
		changed := copyOf(l)
		changed[place].Value = value
		return changed, api.Ans{Is: true}
	}
	if len(l) >= api.MaxKeys {
		return copyOf(l), api.Ans{Err: api.ErrLarge}
	}
	longer := make([]api.Pair, len(l)+1)
	copy(longer, l[:place])
	longer[place] = api.Pair{Key: key, Value: value}
	copy(longer[place+1:], l[place:])
	return longer, api.Ans{}
}

func cut(l []api.Pair, key int) ([]api.Pair, api.Ans) {
	place := countBelow(l, key)
	if !hasAt(l, place, key) {
		return copyOf(l), api.Ans{}
	}
	shorter := make([]api.Pair, len(l)-1)
	copy(shorter, l[:place])
	copy(shorter[place:], l[place+1:])
	return shorter, api.Ans{Value: l[place].Value, Is: true}
}

// look answers what changes no map.
func look(l []api.Pair, o api.Op) api.Ans {
	switch o.Kind {
	case api.KGet:
		return get(l, o.Key)
	case api.KNext:
		// A valid Key is far below the greatest int, so one more does not go round.
		return pairAt(l, countBelow(l, o.Key+1))
	case api.KPrev:
		return pairAt(l, countBelow(l, o.Key)-1)
	case api.KCount:
		return api.Ans{Value: countBelow(l, o.Key), Is: true}
	}
	// Of the valid kinds only KNth is left.
	return pairAt(l, o.Key)
}

func get(l []api.Pair, key int) api.Ans {
	place := countBelow(l, key)
	if !hasAt(l, place, key) {
		return api.Ans{}
	}
	return api.Ans{Value: l[place].Value, Is: true}
}

func pairAt(l []api.Pair, place int) api.Ans {
	if place < 0 || place >= len(l) {
		return api.Ans{}
	}
	return api.Ans{Key: l[place].Key, Value: l[place].Value, Is: true}
}

// countBelow is also the place of key, or the one where it would stand,
// since the keys of a map rise.
func countBelow(l []api.Pair, key int) int {
	count := 0
	for count < len(l) && l[count].Key < key {
		count++
	}
	return count
}

func hasAt(l []api.Pair, place, key int) bool {
	return place < len(l) && l[place].Key == key
}

func copyOf(l []api.Pair) []api.Pair {
	same := make([]api.Pair, len(l))
	copy(same, l)
	return same
}
