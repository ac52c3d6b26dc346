package half

import (
	"maps"
	"math"
	"slices"
	"testing"

	"hedgewright/api"
	"hedgewright/plain"
)

// model keeps all keys in a list that is sorted and searched from one end to
// the other: what the answers are held against.
type model struct{ keys []int }

func (m *model) answer(o api.Op) api.Ans {
	if !slices.Contains(fiveKinds(), o.Kind) {
		return api.Ans{Err: api.ErrForm}
	}
	if o.Key < 0 || o.Key > 65535 {
		return api.Ans{Err: api.ErrArg}
	}
	is := slices.Contains(m.keys, o.Key)
	switch o.Kind {
	case api.KPut:
		if !is {
			m.keys = append(m.keys, o.Key)
			slices.Sort(m.keys)
		}
	case api.KCut:
		m.keys = slices.DeleteFunc(m.keys, func(key int) bool { return key == o.Key })
	case api.KNext:
		for _, key := range m.keys {
			if key > o.Key {
				return api.Ans{Key: key, Is: true}
			}
		}
		return api.Ans{}
	case api.KPrev:
		for _, key := range slices.Backward(m.keys) {
			if key < o.Key {
				return api.Ans{Key: key, Is: true}
			}
		}
		return api.Ans{}
	}
	return api.Ans{Is: is}
}

func modelRun(ops []api.Op) ([]int, []api.Ans) {
	var m model
	var answers []api.Ans
	for _, o := range ops {
		answers = append(answers, m.answer(o))
	}
	return m.keys, answers
}

func fiveKinds() []int {
	return []int{api.KPut, api.KGet, api.KCut, api.KNext, api.KPrev}
}

// each asks for all keys, of one kind; the Values are no matter.
func each(kind int, keys ...int) []api.Op {
	ops := make([]api.Op, len(keys))
	for i, key := range keys {
		ops[i] = api.Op{Kind: kind, Key: key, Value: key*10 + 7}
	}
	return ops
}

func puts(keys ...int) []api.Op { return each(api.KPut, keys...) }

func cuts(keys ...int) []api.Op { return each(api.KCut, keys...) }

// around asks for key in all ways that change nothing.
func around(key int) []api.Op {
	return []api.Op{{Kind: api.KGet, Key: key}, {Kind: api.KNext, Key: key}, {Kind: api.KPrev, Key: key}}
}

func rising(first, n, step int) []int {
	keys := make([]int, n)
	for i := range keys {
		keys[i] = first + i*step
	}
	return keys
}

// edges are keys next to where halves, halves of halves, and so on begin and
// end: 2, 4, 16, 256 and 65536.
func edges() []int {
	return []int{0, 1, 2, 3, 4, 15, 16, 17, 255, 256, 257, 271, 272, 511, 512,
		4095, 4096, 32767, 32768, 65279, 65280, 65281, 65519, 65520, 65534, 65535}
}

// someOps has n ops that follow from seed, of keys that are near to each other
// where spread is little, and of some that are no keys.
func someOps(seed uint32, n, spread int) []api.Op {
	next := func(bound int) int {
		seed = seed*1664525 + 1013904223
		return int(seed>>8) % bound
	}
	kinds := []int{api.KPut, api.KPut, api.KPut, api.KPut, api.KCut, api.KCut, api.KCut,
		api.KGet, api.KNext, api.KNext, api.KPrev, api.KPrev, api.KCount, api.KNth, 0, 8}
	first := next(65538-spread+1) - 1
	ops := make([]api.Op, n)
	for i := range ops {
		ops[i] = api.Op{Kind: kinds[next(len(kinds))], Key: first + next(spread), Value: next(1000)}
	}
	return ops
}

// holds compares what Run tells of ops with the model.
func holds(t *testing.T, ops []api.Op) {
	t.Helper()
	keys, answers, err := Run(ops)
	wantKeys, wantAnswers := modelRun(ops)
	if !slices.Equal(keys, wantKeys) || err != api.OK {
		t.Fatalf("%v: %v %v, want %v", ops, keys, err, wantKeys)
	}
	if !slices.Equal(answers, wantAnswers) {
		t.Fatalf("%v: %v, want %v", ops, answers, wantAnswers)
	}
}

// P10.1

func TestRunAnswers(t *testing.T) {
	there := puts(5, 300, 65535)
	cases := []struct {
		name string
		kind int
		key  int
		want api.Ans
		keys []int
	}{
		{"put a new one", api.KPut, 6, api.Ans{}, []int{5, 6, 300, 65535}},
		{"put the least key that there may be", api.KPut, 0, api.Ans{}, []int{0, 5, 300, 65535}},
		{"put an old one", api.KPut, 300, api.Ans{Is: true}, []int{5, 300, 65535}},
		{"put the old least", api.KPut, 5, api.Ans{Is: true}, []int{5, 300, 65535}},
		{"put the old greatest", api.KPut, 65535, api.Ans{Is: true}, []int{5, 300, 65535}},
		{"get", api.KGet, 300, api.Ans{Is: true}, []int{5, 300, 65535}},
		{"get what is not there", api.KGet, 301, api.Ans{}, []int{5, 300, 65535}},
		{"get below all", api.KGet, 0, api.Ans{}, []int{5, 300, 65535}},
		{"cut", api.KCut, 300, api.Ans{Is: true}, []int{5, 65535}},
		{"cut the least", api.KCut, 5, api.Ans{Is: true}, []int{300, 65535}},
		{"cut the greatest", api.KCut, 65535, api.Ans{Is: true}, []int{5, 300}},
		{"cut what is not there", api.KCut, 299, api.Ans{}, []int{5, 300, 65535}},
		{"above 300", api.KNext, 300, api.Ans{Key: 65535, Is: true}, []int{5, 300, 65535}},
		{"above what is not there", api.KNext, 6, api.Ans{Key: 300, Is: true}, []int{5, 300, 65535}},
		{"above 0", api.KNext, 0, api.Ans{Key: 5, Is: true}, []int{5, 300, 65535}},
		{"above all", api.KNext, 65535, api.Ans{}, []int{5, 300, 65535}},
		{"below 300", api.KPrev, 300, api.Ans{Key: 5, Is: true}, []int{5, 300, 65535}},
		{"below what is not there", api.KPrev, 65534, api.Ans{Key: 300, Is: true}, []int{5, 300, 65535}},
		{"below the least", api.KPrev, 5, api.Ans{}, []int{5, 300, 65535}},
		{"below 0", api.KPrev, 0, api.Ans{}, []int{5, 300, 65535}},
	}
	for _, c := range cases {
		keys, answers, err := Run(append(slices.Clone(there), api.Op{Kind: c.kind, Key: c.key, Value: 9}))
		if len(answers) != 4 || answers[3] != c.want || !slices.Equal(keys, c.keys) || err != api.OK {
			t.Errorf("%s: %v %v %v, want %v %v", c.name, answers, keys, err, c.want, c.keys)
		}
	}
}

func TestRunOfNothing(t *testing.T) {
	for _, ops := range [][]api.Op{nil, {}} {
		if keys, answers, err := Run(ops); len(keys) != 0 || len(answers) != 0 || err != api.OK {
			t.Error(keys, answers, err)
		}
	}
	for _, kind := range []int{api.KGet, api.KCut, api.KNext, api.KPrev} {
		for _, key := range edges() {
			if keys, answers, err := Run(each(kind, key)); len(keys) != 0 || answers[0] != (api.Ans{}) || err != api.OK {
				t.Error("nothing is there:", kind, key, keys, answers, err)
			}
		}
	}
}

func TestRunRefuses(t *testing.T) {
	out := []int{-1, 65536, 65537, -65536, -65535, 1 << 32, 1<<32 + 5, api.MaxKey, math.MinInt, math.MinInt + 5, math.MaxInt}
	cases := []struct {
		name  string
		kinds []int
		keys  []int
		want  api.Errno
	}{
		{"a key that is none", fiveKinds(), out, api.ErrArg},
		{"a kind that only other maps have", []int{api.KCount, api.KNth}, []int{0, 1, 5, 65535}, api.ErrForm},
		{"the form is told ahead of the key", []int{api.KCount, api.KNth}, out, api.ErrForm},
		{"no kind", []int{0, -1, 8, 9, math.MinInt, math.MaxInt, 1<<32 + 1}, []int{0, 5, 65535}, api.ErrForm},
		{"no kind and no key", []int{0, -1, 8, math.MinInt, math.MaxInt}, out, api.ErrForm},
	}
	for _, c := range cases {
		for _, kind := range c.kinds {
			for _, key := range c.keys {
				// Those behind it are answered as if it had not been.
				ops := slices.Concat(puts(5, 9), each(kind, key), puts(5, 65535), around(9))
				want := []api.Ans{{}, {}, {Err: c.want}, {Is: true}, {}, {Is: true}, {Key: 65535, Is: true}, {Key: 5, Is: true}}
				keys, answers, err := Run(ops)
				if !slices.Equal(keys, []int{5, 9, 65535}) || !slices.Equal(answers, want) || err != api.OK {
					t.Errorf("%s: %d %d: %v %v %v, want %v", c.name, kind, key, keys, answers, err, want)
				}
			}
		}
	}
}

func TestRunAtItsLimits(t *testing.T) {
	// More than MaxKeys, and all of them there: apart, close together, and one in each part.
	for _, step := range []int{1, 218, 16, 256} {
		for _, first := range []int{0, 65535 - step*(min(api.MaxOps, 65536/step)-1)} {
			all := rising(first, min(api.MaxOps, 65536/step), step)
			for _, ops := range [][]api.Op{puts(all...), puts(backward(all)...)} {
				keys, answers, err := Run(ops)
				if !slices.Equal(keys, all) || slices.ContainsFunc(answers, func(a api.Ans) bool { return a != api.Ans{} }) || err != api.OK {
					t.Error("more than MaxKeys:", first, step, keys, answers, err)
				}
			}
		}
	}
	for _, n := range []int{api.MaxOps + 1, 100_000} {
		for _, kind := range []int{0, api.KPut, api.KCount} {
			if keys, answers, err := Run(each(kind, make([]int, n)...)); keys != nil || answers != nil || err != api.ErrLarge {
				t.Error("too many ops:", n, kind, keys, answers, err)
			}
		}
	}
}

func backward(keys []int) []int {
	turned := slices.Clone(keys)
	slices.Reverse(turned)
	return turned
}

// Each pair and each triple of edges, asked around all edges, then cut in
// three orders.
func TestRunAtAllEdges(t *testing.T) {
	var asked []api.Op
	for _, key := range edges() {
		asked = append(asked, around(key)...)
	}
	for _, a := range edges() {
		for _, b := range edges() {
			for _, c := range edges() {
				holds(t, slices.Concat(puts(a, b, c), asked, cuts(a), asked, cuts(b, a), around(c), cuts(c), around(b)))
			}
		}
	}
}

// All sets of four bits, in each of the places where halves may end.
func TestRunOfAllSmallSets(t *testing.T) {
	for _, shift := range []int{0, 2, 6, 8, 12} {
		for bits := range 1 << 16 {
			if shift > 0 && bits%7 != 0 {
				continue // a seventh of them will do
			}
			var keys []int
			var s *set
			for i := range 16 {
				if key := i * 7 % 16; bits>>key&1 == 1 {
					s = s.with(key<<shift, keyBits)
				}
				if bits>>i&1 == 1 {
					keys = append(keys, i<<shift)
				}
			}
			if !slices.Equal(s.keys(), keys) {
				t.Fatal(shift, bits, s.keys())
			}
			if len(keys) > 0 {
				s = s.without(keys[bits%len(keys)])
				keys = slices.Delete(keys, bits%len(keys), bits%len(keys)+1)
			}
			stands(t, s, keyBits)
			if !slices.Equal(s.keys(), keys) {
				t.Fatal(shift, bits, s.keys())
			}
		}
	}
}

func TestRunAsTheModel(t *testing.T) {
	for _, spread := range []int{3, 20, 40, 300, 2000, 65538} {
		for seed := range uint32(300) {
			holds(t, someOps(seed, api.MaxOps-int(seed)%100, spread))
		}
	}
}

// With keys that both take, and no more than a map may have, plain tells the same.
func TestRunAsPlain(t *testing.T) {
	for seed := range uint32(300) {
		ops := someOps(seed, api.MaxKeys, []int{5, 50, 500, 65536}[seed%4])
		ops = slices.DeleteFunc(ops, func(o api.Op) bool { return !slices.Contains(fiveKinds(), o.Kind) || !isKey(o.Key) })
		pairs, want, _ := plain.Run(ops)
		for i := range want {
			want[i].Value = 0
		}
		keys, answers, err := Run(ops)
		if !slices.Equal(answers, want) || len(keys) != len(pairs) || err != api.OK {
			t.Fatal(ops, keys, answers, err, want)
		}
		for i, key := range keys {
			if key != pairs[i].Key {
				t.Fatal(ops, keys, pairs)
			}
		}
	}
}

func TestRunWithoutValues(t *testing.T) {
	keys := []int{3, 300, 301, 65535}
	for _, kind := range fiveKinds() {
		_, answers, _ := Run(append(puts(keys...), each(kind, keys...)...))
		for _, a := range answers {
			if a.Value != 0 {
				t.Error(kind, answers)
			}
		}
	}
}

// What is put and cut, in whatever order, leaves nothing behind.
func TestRunCutsAll(t *testing.T) {
	for _, step := range []int{1, 16, 255, 256, 257} {
		keys := rising(65535-step*99, 100, step)
		for _, come := range [][]int{keys, backward(keys)} {
			for _, leave := range [][]int{keys, backward(keys), append(slices.Clone(keys[50:]), keys[:50]...)} {
				holds(t, slices.Concat(puts(come...), cuts(leave...), around(keys[50]), puts(keys[7], keys[3]), cuts(keys[7])))
			}
		}
	}
}

// stands tells whether the parts of s are as they are to be: none is empty,
// and the highs are just those of the parts.
func stands(t *testing.T, s *set, bits int) {
	t.Helper()
	if s == nil {
		return
	}
	if s.half != bits/2 || s.least < 0 || s.least > s.most || s.most >= 1<<bits {
		t.Fatalf("%+v", *s)
	}
	if s.half == 0 {
		if s.parts != nil || s.highs != nil {
			t.Fatalf("%+v", *s)
		}
		return
	}
	highs := slices.Sorted(maps.Keys(s.parts))
	if !slices.Equal(s.highs.keys(), highs) || (len(highs) == 0) != (s.least == s.most) {
		t.Fatalf("%+v: %v", *s, highs)
	}
	stands(t, s.highs, s.half)
	for _, high := range highs {
		if s.parts[high] == nil {
			t.Fatalf("%+v: nothing at %d", *s, high)
		}
		stands(t, s.parts[high], s.half)
	}
	if len(highs) > 0 {
		first, last := highs[0], highs[len(highs)-1]
		if s.join(first, s.parts[first].least) <= s.least || s.join(last, s.parts[last].most) != s.most {
			t.Fatalf("%+v", *s)
		}
	}
}

func TestSetStands(t *testing.T) {
	for seed := range uint32(200) {
		var s *set
		for _, o := range someOps(seed, 200, []int{4, 40, 600, 65538}[seed%4]) {
			s, _ = do(s, o)
			stands(t, s, keyBits)
		}
	}
}

// P10.2

func TestEnds(t *testing.T) {
	cases := []struct {
		name      string
		keys      []int
		low, high int
	}{
		{"one", []int{7}, 7, 7},
		{"the least one", []int{0}, 0, 0},
		{"the greatest one", []int{65535}, 65535, 65535},
		{"rising", []int{3, 700, 65535}, 3, 65535},
		{"falling", []int{65535, 700, 3}, 3, 65535},
		{"the least in the middle", []int{700, 3, 65535}, 3, 65535},
		{"the greatest in the middle", []int{700, 65535, 3}, 3, 65535},
		{"one twice", []int{9, 9}, 9, 9},
		{"all alike", slices.Repeat([]int{300}, api.MaxOps), 300, 300},
		{"as many 0 as may be", make([]int, api.MaxOps), 0, 0},
		{"all that there may be", []int{65535, 0}, 0, 65535},
		{"in one part", []int{258, 256, 257}, 256, 258},
		{"more than MaxKeys", rising(100, api.MaxOps, 1), 100, 399},
		{"more than MaxKeys, falling", backward(rising(100, api.MaxOps, 200)), 100, 59900},
	}
	for _, c := range cases {
		if low, high, err := Ends(c.keys); low != c.low || high != c.high || err != api.OK {
			t.Errorf("%s: %v %v %v, want %v %v", c.name, low, high, err, c.low, c.high)
		}
	}
}

func TestEndsOfSome(t *testing.T) {
	for seed := range uint32(300) {
		var keys []int
		for _, o := range someOps(seed, 1+int(seed), []int{5, 50, 500, 65536}[seed%4]) {
			keys = append(keys, min(max(o.Key, 0), 65535))
		}
		low, high, err := Ends(keys)
		if low != slices.Min(keys) || high != slices.Max(keys) || err != api.OK {
			t.Fatal(keys, low, high, err)
		}
		told, _, _ := Run(puts(keys...))
		if low != told[0] || high != told[len(told)-1] {
			t.Fatal(keys, low, high, told)
		}
	}
}

func TestEndsRefuses(t *testing.T) {
	bad := make([]int, api.MaxOps+1)
	bad[0], bad[api.MaxOps] = -1, 65536
	last := rising(0, api.MaxOps, 1)
	last[api.MaxOps-1] = 65536
	cases := []struct {
		name string
		keys []int
		want api.Errno
	}{
		{"nothing", nil, api.ErrNone},
		{"an empty list", []int{}, api.ErrNone},
		{"one too many", make([]int, api.MaxOps+1), api.ErrLarge},
		{"far too many", make([]int, 100_000), api.ErrLarge},
		{"too many is told ahead of the form", bad, api.ErrLarge},
		{"one below", []int{-1}, api.ErrForm},
		{"one above", []int{65536}, api.ErrForm},
		{"far below", []int{math.MinInt}, api.ErrForm},
		{"far above", []int{math.MaxInt}, api.ErrForm},
		{"far above, its low bits a key", []int{1<<32 + 5}, api.ErrForm},
		{"far below, its low bits a key", []int{math.MinInt + 5}, api.ErrForm},
		{"the first of some", []int{-1, 5, 6}, api.ErrForm},
		{"the last of some", []int{5, 6, 65536}, api.ErrForm},
		{"the last of as many as may be", last, api.ErrForm},
	}
	for _, c := range cases {
		if low, high, err := Ends(c.keys); low != 0 || high != 0 || err != c.want {
			t.Errorf("%s: %v %v %v, want %v", c.name, low, high, err, c.want)
		}
	}
}

// P1

func TestNothingPanics(t *testing.T) {
	numbers := []int{math.MinInt, math.MinInt + 1, -65536, -1, 0, 1, 2, 3, 4, 5, 6, 7, 8, 255, 256, 65535, 65536, math.MaxInt - 1, math.MaxInt}
	for _, a := range numbers {
		for _, b := range numbers {
			Ends([]int{a, b})
			Ends([]int{b, 5, a})
			for _, c := range numbers {
				Run([]api.Op{{Kind: a, Key: b, Value: c}, {Kind: b, Key: c}, {Kind: c, Key: a}})
				holds(t, slices.Concat(puts(a, b), []api.Op{{Kind: c, Key: a}}, cuts(b, c), around(c)))
			}
		}
	}
	for n := range 2 * api.MaxOps {
		Run(make([]api.Op, n))
		Run(puts(rising(-5, n, 300)...))
		Ends(rising(-5, n, 300))
	}
}

// P2

// withRoom has what l has, and room behind it that is filled.
func withRoom[T any](l []T, junk T) []T {
	wide := slices.Clone(l)
	for range 25 {
		wide = append(wide, junk)
	}
	return wide[:len(l)]
}

// spoil writes over all of l, spare room included.
func spoil[T any](l []T, junk T) {
	l = l[:cap(l)]
	for i := range l {
		l[i] = junk
	}
}

func TestMemory(t *testing.T) {
	for seed := range uint32(100) {
		ops := withRoom(someOps(seed, int(seed)*4, 200), api.Op{Kind: api.KPut, Key: 77})
		list := withRoom(backward(rising(7, int(seed)*4, 3)), 1)
		wholeOps, wholeList := ops[:cap(ops)], list[:cap(list)]
		aheadOps, aheadList := slices.Clone(wholeOps), slices.Clone(wholeList)

		keys, answers, _ := Run(ops)
		low, high, err := Ends(list)
		wantKeys, wantAnswers := slices.Clone(keys), slices.Clone(answers)
		spoil(keys, -7)
		if !slices.Equal(answers, wantAnswers) {
			t.Fatal("two lists share memory", ops)
		}
		spoil(answers, api.Ans{Err: 3, Key: -7, Value: -7})
		if !slices.Equal(wholeOps, aheadOps) || !slices.Equal(wholeList, aheadList) {
			t.Fatal("changed what was handed in", ops)
		}

		keysAgain, answersAgain, _ := Run(ops)
		lowAgain, highAgain, errAgain := Ends(list)
		if !slices.Equal(keysAgain, wantKeys) || !slices.Equal(answersAgain, wantAnswers) ||
			lowAgain != low || highAgain != high || errAgain != err {
			t.Fatal("kept something", ops)
		}
	}
}
