package goat

import (
	"math"
	"slices"
	"testing"

	"hedgewright/api"
	"hedgewright/grow"
	"hedgewright/plain"
	"hedgewright/shape"
	"hedgewright/skip"
)

// node is of a tree with pointers: the model that the answers are held against.
type node struct {
	key         int
	left, right *node
}

// model is that tree, and what is told of it beside its keys.
type model struct {
	top         *node
	most, built int
}

func (n *node) count() int {
	if n == nil {
		return 0
	}
	return n.left.count() + 1 + n.right.count()
}

func (n *node) keys() []int {
	if n == nil {
		return nil
	}
	return slices.Concat(n.left.keys(), []int{n.key}, n.right.keys())
}

func (n *node) spots(depth int) []api.Spot {
	if n == nil {
		return nil
	}
	return slices.Concat(n.left.spots(depth+1), []api.Spot{{Key: n.key, Depth: depth}}, n.right.spots(depth+1))
}

// way has all nodes from the top to key, or to the last one that is met.
func (m *model) way(key int) []*node {
	var met []*node
	for n := m.top; n != nil; {
		met = append(met, n)
		switch {
		case key < n.key:
			n = n.left
		case key > n.key:
			n = n.right
		default:
			return met
		}
	}
	return met
}

func (m *model) has(key int) bool {
	met := m.way(key)
	return len(met) > 0 && met[len(met)-1].key == key
}

// put exchanges what stands next below the last of met, on the side of key, for n.
func (m *model) put(met []*node, key int, n *node) {
	switch {
	case len(met) == 0:
		m.top = n
	case key < met[len(met)-1].key:
		met[len(met)-1].left = n
	default:
		met[len(met)-1].right = n
	}
}

func (m *model) come(key int) {
	met := m.way(key)
	m.put(met, key, &node{key: key})
	m.most = max(m.most, m.top.count())
	if len(met) <= mostDeep(m.most) {
		return
	}
	for i := len(met) - 1; i >= 0; i-- {
		n := met[i]
		if all := n.count(); n.left.count()*3 > all*2 || n.right.count()*3 > all*2 {
			m.put(met[:i], key, even(n.keys()))
			m.built += all
			return
		}
	}
	panic("no one above is lopsided")
}

func (m *model) leave(key int) {
	met := m.way(key)
	m.take(met)
	if all := m.top.count(); all*3 < m.most*2 {
		m.top = even(m.top.keys())
		m.built += all
		m.most = all
	}
}

// take lets the last of met go.
func (m *model) take(met []*node) {
	n := met[len(met)-1]
	if n.left != nil && n.right != nil {
		for least := n.right; least != nil; least = least.left {
			met = append(met, least)
		}
		least := met[len(met)-1]
		m.take(met)
		n.key = least.key
		return
	}
	below := n.left
	if below == nil {
		below = n.right
	}
	m.put(met[:len(met)-1], n.key, below)
}

func even(keys []int) *node {
	if len(keys) == 0 {
		return nil
	}
	half := len(keys) / 2
	return &node{keys[half], even(keys[:half]), even(keys[half+1:])}
}

// mostDeep looks from far below up to the first depth that may be.
func mostDeep(many int) int {
	power := func(base uint64, times int) uint64 {
		all := uint64(1)
		for range times {
			all *= base
		}
		return all
	}
	for depth := 35; depth > 0; depth-- {
		if power(3, depth) <= uint64(many)*power(2, depth) {
			return depth
		}
	}
	return 0
}

// modelBy is the model behind all ops, and by how much one stood deeper than it
// may, behind any of them.
func modelBy(ops []api.Op) (m model, beyond int) {
	for _, o := range ops {
		switch is := m.has(o.Key); {
		case o.Key < 0 || o.Key > api.MaxKey:
		case o.Kind == api.KPut && !is && m.top.count() < api.MaxKeys:
			m.come(o.Key)
		case o.Kind == api.KCut && is:
			m.leave(o.Key)
		}
		deep, _, _ := shape.Sum(m.top.spots(0))
		beyond = max(beyond, deep-mostDeep(m.most))
	}
	return m, beyond
}

func rising(first, n int) []int {
	keys := make([]int, n)
	for i := range keys {
		keys[i] = first + i
	}
	return keys
}

func falling(n int) []int {
	keys := rising(0, n)
	slices.Reverse(keys)
	return keys
}

// stirred has the keys from 0 to n - 1, in an order that follows from seed.
func stirred(seed uint32, n int) []int {
	keys := rising(0, n)
	for i := n - 1; i > 0; i-- {
		seed = seed*1664525 + 1013904223
		j := int(seed>>8) % (i + 1)
		keys[i], keys[j] = keys[j], keys[i]
	}
	return keys
}

// byTurns has the keys from both ends: the least, the greatest, and so on.
func byTurns(n int) []int {
	keys := make([]int, n)
	for i := range keys {
		keys[i] = i / 2
		if i%2 == 1 {
			keys[i] = n - 1 - i/2
		}
	}
	return keys
}

func puts(keys ...int) []api.Op {
	ops := make([]api.Op, len(keys))
	for i, key := range keys {
		ops[i] = api.Op{Kind: api.KPut, Key: key, Value: key * 10}
	}
	return ops
}

func cuts(keys ...int) []api.Op {
	ops := puts(keys...)
	for i := range ops {
		ops[i].Kind = api.KCut
	}
	return ops
}

// someOps has n ops of keys from -1 to most, that follow from seed. By runs
// of 16 there are more puts, then more cuts; some runs of puts rise.
func someOps(seed uint32, n, most int) []api.Op {
	next := func(bound int) int {
		seed = seed*1664525 + 1013904223
		return int(seed>>8) % bound
	}
	kinds := [2][]int{
		{api.KPut, api.KPut, api.KPut, api.KPut, api.KPut, api.KPut, api.KCut, api.KGet, api.KCount},
		{api.KCut, api.KCut, api.KCut, api.KCut, api.KPut, api.KNext, api.KPrev, api.KNth, 0, 8},
	}
	ops := make([]api.Op, n)
	phase, step, key := 0, 0, 0
	for i := range ops {
		if i%16 == 0 {
			phase, step = max(0, next(3)-1), next(2)
		}
		if step == 0 {
			key = next(most+2) - 1
		} else {
			key = (key + step) % (most + 1)
		}
		ops[i] = api.Op{Kind: kinds[phase][next(len(kinds[phase]))], Key: key, Value: next(1000)}
	}
	return ops
}

// sampleOps has what the chapter speaks of: many that rise, and many that go.
func sampleOps() [][]api.Op {
	lists := [][]api.Op{nil, puts(0), cuts(0), puts(rising(0, 200)...), puts(falling(200)...), puts(byTurns(200)...)}
	for n := range 60 {
		keys := rising(0, n)
		lists = append(lists, puts(keys...), puts(falling(n)...), puts(byTurns(n)...),
			slices.Concat(puts(keys...), cuts(keys...)),
			slices.Concat(puts(keys...), cuts(falling(n)...)),
			slices.Concat(puts(stirred(7, n)...), cuts(stirred(8, n)...), puts(keys...)),
			slices.Concat(puts(keys...), cuts(stirred(9, n)[:n/2]...), puts(falling(n)...), cuts(byTurns(n)...)))
	}
	for seed := range uint32(400) {
		lists = append(lists, someOps(seed, int(seed)%301, []int{3, 20, 60, 150, 1000, api.MaxKey + 1}[seed%6]))
	}
	return lists
}

// P7.1

func TestEven(t *testing.T) {
	cases := []struct {
		keys []int
		want []api.Spot
	}{
		{nil, nil},
		{[]int{}, nil},
		{[]int{0}, []api.Spot{{Key: 0}}},
		{[]int{api.MaxKey}, []api.Spot{{Key: api.MaxKey}}},
		{[]int{3, 9}, []api.Spot{{Key: 3, Depth: 1}, {Key: 9}}},
		{[]int{3, 9, 10}, []api.Spot{{Key: 3, Depth: 1}, {Key: 9}, {Key: 10, Depth: 1}}},
		{[]int{0, 5, 6, api.MaxKey}, []api.Spot{{Key: 0, Depth: 2}, {Key: 5, Depth: 1}, {Key: 6}, {Key: api.MaxKey, Depth: 1}}},
		{rising(1, 5), []api.Spot{{Key: 1, Depth: 2}, {Key: 2, Depth: 1}, {Key: 3}, {Key: 4, Depth: 2}, {Key: 5, Depth: 1}}},
		{rising(1, 6), []api.Spot{{Key: 1, Depth: 2}, {Key: 2, Depth: 1}, {Key: 3, Depth: 2}, {Key: 4}, {Key: 5, Depth: 2}, {Key: 6, Depth: 1}}},
		{rising(1, 7), []api.Spot{{Key: 1, Depth: 2}, {Key: 2, Depth: 1}, {Key: 3, Depth: 2}, {Key: 4},
			{Key: 5, Depth: 2}, {Key: 6, Depth: 1}, {Key: 7, Depth: 2}}},
	}
	for _, c := range cases {
		if got, err := Even(c.keys); !slices.Equal(got, c.want) || err != api.OK {
			t.Errorf("%v: %v %v, want %v", c.keys, got, err, c.want)
		}
	}
}

func TestEvenOfAnyMany(t *testing.T) {
	for n := range api.MaxKeys + 1 {
		for _, first := range []int{0, 17, api.MaxKey + 1 - n} {
			keys := rising(min(first, api.MaxKey), n)
			got, err := Even(keys)
			if !slices.Equal(got, even(keys).spots(0)) || err != api.OK {
				t.Fatalf("%v: %v %v", keys, got, err)
			}
			// No tree of so many keys is less deep.
			if deep, _, err := shape.Sum(got); n >= 1<<max(deep+1, 0) || n < 1<<max(deep, 0) && n > 0 || err != api.OK {
				t.Fatalf("%v: %v deep, %v", n, deep, err)
			}
		}
	}
}

func TestEvenTellsErrors(t *testing.T) {
	twice := rising(0, 201)
	twice[4] = 3
	lists := [][]int{{2, 1}, {2, 2}, {0, 1, 1}, {-1}, {-1, 0}, {0, api.MaxKey + 1}, {api.MaxKey + 1}, {math.MinInt, 3}, {3, math.MaxInt},
		falling(200), falling(201), rising(0, 201), twice, make([]int, 100_000), rising(-1, 200), rising(-1, 201)}
	for _, keys := range lists {
		want := api.ErrForm
		if len(keys) > api.MaxKeys {
			want = api.ErrLarge
		}
		_, rows := skip.Rows(keys)
		if got, err := Even(keys); got != nil || err != want || err != rows {
			t.Errorf("%v: %v %v, want %v", keys, got, err, want)
		}
	}
}

func TestDeepest(t *testing.T) {
	// The least number at which so deep is allowed, for each depth.
	least := []int{0, 2, 3, 4, 6, 8, 12, 18, 26, 39, 58, 87, 130, 195}
	for many := range api.MaxKeys + 1 {
		want := 0
		for depth, from := range least {
			if many >= from {
				want = depth
			}
		}
		if got, err := Deepest(many); got != want || got != mostDeep(many) || err != api.OK {
			t.Errorf("%v: %v %v, want %v", many, got, err, want)
		}
	}
}

func TestDeepestTellsErrors(t *testing.T) {
	for _, many := range []int{-1, -200, math.MinInt, math.MinInt + 1, 201, 1 << 32, api.MaxKey, math.MaxInt - 1, math.MaxInt} {
		if got, err := Deepest(many); got != 0 || err != api.ErrArg {
			t.Errorf("%v: %v %v", many, got, err)
		}
	}
}

// P7.2

func TestRunTellsTheTree(t *testing.T) {
	three := []api.Spot{{Key: 1, Depth: 1}, {Key: 2}, {Key: 3, Depth: 1}}
	cases := []struct {
		name  string
		ops   []api.Op
		want  []api.Spot
		built int
	}{
		{"nil", nil, nil, 0},
		{"empty", []api.Op{}, nil, 0},
		{"one", puts(9), []api.Spot{{Key: 9}}, 0},
		{"greatest key", puts(api.MaxKey), []api.Spot{{Key: api.MaxKey}}, 0},
		{"as it grows", puts(2, 3, 1), three, 0},
		{"four are not too deep", puts(0, 1, 2, 3), []api.Spot{{Key: 0}, {Key: 1, Depth: 1}, {Key: 2, Depth: 2}, {Key: 3, Depth: 3}}, 0},
		{"five rise", puts(0, 1, 2, 3, 4), []api.Spot{{Key: 0}, {Key: 1, Depth: 3}, {Key: 2, Depth: 2}, {Key: 3, Depth: 1}, {Key: 4, Depth: 2}}, 4},
		{"five fall", puts(4, 3, 2, 1, 0), []api.Spot{{Key: 0, Depth: 3}, {Key: 1, Depth: 2}, {Key: 2, Depth: 1}, {Key: 3, Depth: 2}, {Key: 4}}, 4},
		{"by turns", puts(0, 4, 1, 3, 2), []api.Spot{{Key: 0}, {Key: 1, Depth: 3}, {Key: 2, Depth: 2}, {Key: 3, Depth: 1}, {Key: 4, Depth: 2}}, 4},
		{"of seven one may stand at 4", puts(2, 0, 1, 3, 4, 5, 6), []api.Spot{{Key: 0, Depth: 1}, {Key: 1, Depth: 2},
			{Key: 2}, {Key: 3, Depth: 1}, {Key: 4, Depth: 2}, {Key: 5, Depth: 3}, {Key: 6, Depth: 4}}, 0},
		{"one goes of one", append(puts(5), cuts(5)...), nil, 0},
		{"one goes of two", append(puts(5, 6), cuts(5)...), []api.Spot{{Key: 6}}, 1},
		{"just two thirds are left", append(puts(5, 6, 7), cuts(6)...), []api.Spot{{Key: 5}, {Key: 7, Depth: 1}}, 0},
		{"two go of five", append(puts(0, 1, 2, 3, 4), cuts(0, 4)...), three, 7},
		{"two go of six", append(puts(3, 0, 2, 1, 5, 4), cuts(5, 4)...), []api.Spot{{Key: 0, Depth: 1}, {Key: 1, Depth: 3}, {Key: 2, Depth: 2}, {Key: 3}}, 0},
		{"three go of six", append(puts(3, 0, 2, 1, 5, 4), cuts(5, 4, 0)...), three, 3},
		{"the least of the right side comes up", append(puts(2, 1, 5, 3, 4), cuts(2)...), []api.Spot{{Key: 1, Depth: 1}, {Key: 3}, {Key: 4, Depth: 2}, {Key: 5, Depth: 1}}, 0},
		{"the right side comes up", append(puts(2, 1, 5, 6), cuts(2)...), []api.Spot{{Key: 1, Depth: 1}, {Key: 5}, {Key: 6, Depth: 1}}, 0},
		{"put twice", puts(2, 1, 2, 1), []api.Spot{{Key: 1, Depth: 1}, {Key: 2}}, 0},
		{"cut what is not there", append(puts(2, 1), cuts(0, 3, 9)...), []api.Spot{{Key: 1, Depth: 1}, {Key: 2}}, 0},
		{"refused", append(puts(-1, 2, api.MaxKey+1), api.Op{Kind: 8, Key: 3}, api.Op{Kind: api.KCut, Key: -1}), []api.Spot{{Key: 2}}, 0},
	}
	for _, c := range cases {
		got, built, answers, err := Run(c.ops)
		if !slices.Equal(got, c.want) || built != c.built || len(answers) != len(c.ops) || err != api.OK {
			t.Errorf("%s: %v %v %v %v, want %v %v", c.name, got, built, answers, err, c.want, c.built)
		}
	}
}

// MOST stays while keys go, as long as enough are left: as deep as it allows
// a key may stand among fewer keys.
func TestRunKeepsMost(t *testing.T) {
	ops := slices.Concat(puts(9, 10, 11, 0, 1, 2), cuts(10, 11), puts(3))
	want := []api.Spot{{Key: 0, Depth: 1}, {Key: 1, Depth: 2}, {Key: 2, Depth: 3}, {Key: 3, Depth: 4}, {Key: 9}}
	if tree, built, _, err := Run(ops); !slices.Equal(tree, want) || built != 0 || err != api.OK {
		t.Error(tree, built, err)
	}
}

// Of 39 keys one might stand at 9, but behind a build of the 25 that are left
// it may not, until there are so many again.
func TestRunLowersMost(t *testing.T) {
	ahead, _ := shape.Order(even(rising(0, 39)).spots(0), 3)
	ops := append(puts(ahead...), cuts(rising(26, 13)...)...)
	if _, built, _, err := Run(ops); built != 0 || err != api.OK {
		t.Error("26 left:", built, err)
	}
	ops = append(ops, cuts(25)...)
	if tree, built, _, err := Run(ops); !slices.Equal(tree, even(rising(0, 25)).spots(0)) || built != 25 || err != api.OK {
		t.Error("25 left:", tree, built, err)
	}
	ops = append(ops, puts(rising(100, 5)...)...)
	if tree, built, _, err := Run(ops); tree[29] != (api.Spot{Key: 104, Depth: 8}) || built != 25 || err != api.OK {
		t.Error("five more:", tree, built, err)
	}
	ops = append(ops, puts(105)...)
	want := []api.Spot{{Key: 102, Depth: 8}, {Key: 103, Depth: 7}, {Key: 104, Depth: 6}, {Key: 105, Depth: 7}}
	if tree, built, _, err := Run(ops); !slices.Equal(tree[27:], want) || built != 29 || err != api.OK {
		t.Error("six more:", tree, built, err)
	}
}

// spine has the keys from 0 on: each node on its way to the right has an even
// tree of so many keys to its left.
func spine(sides ...int) []api.Spot {
	var l []api.Spot
	for depth, n := range sides {
		l = append(l, even(rising(len(l), n)).spots(depth+1)...)
		l = append(l, api.Spot{Key: len(l), Depth: depth})
	}
	return l
}

// mirrored is the tree l seen from behind, with keys from 0 on.
func mirrored(l []api.Spot) []api.Spot {
	l = slices.Clone(l)
	slices.Reverse(l)
	for i := range l {
		l[i].Key = i
	}
	return l
}

// The other side may be the one that has too much: here the 27 keys to the left
// of 44, of 40 with it, while 56 comes too deep to its right.
func TestRunLooksAtBothSides(t *testing.T) {
	l := spine(4, 3, 3, 3, 27, 3, 2, 1, 0, 0, 0)
	m := mirrored(l)
	cases := []struct{ ahead, want []api.Spot }{
		{l, slices.Concat(l[:17], even(rising(17, 40)).spots(4))},
		{m, slices.Concat(even(rising(0, 40)).spots(4), m[40:])},
	}
	for i, c := range cases {
		keys, _ := shape.Order(c.ahead, 3)
		if tree, built, _, err := Run(puts(keys[:56]...)); len(tree) != 56 || built != 0 || err != api.OK {
			t.Error(i, "ahead of the last:", tree, built, err)
		}
		if tree, built, _, err := Run(puts(keys...)); !slices.Equal(tree, c.want) || built != 40 || err != api.OK {
			t.Errorf("%v: %v %v %v, want %v", i, tree, built, err, c.want)
		}
	}
}

// Where nothing is built, the tree is that of chapter 4.
func TestRunAsItGrows(t *testing.T) {
	same := 0
	for _, ops := range sampleOps() {
		want, _, _ := grow.Run(ops)
		if tree, built, _, err := Run(ops); built == 0 {
			same++
			if !slices.Equal(tree, want) || err != api.OK {
				t.Fatalf("%v: %v %v, want %v", ops, tree, err, want)
			}
		}
	}
	if same < 50 {
		t.Error("only", same, "without a build")
	}
}

func TestRunAsPlainAndAsTheModel(t *testing.T) {
	for _, ops := range sampleOps() {
		_, want, tooMany := plain.Run(ops)
		tree, built, answers, err := Run(ops)
		if err != tooMany || !slices.Equal(answers, want) {
			t.Fatalf("%v: %v %v", ops, answers, err)
		}
		m, beyond := modelBy(ops)
		if !slices.Equal(tree, m.top.spots(0)) || built != m.built {
			t.Fatalf("%v: %v %v, want %v %v", ops, tree, built, m.top.spots(0), m.built)
		}
		if beyond > 0 {
			t.Fatalf("%v: deeper than it may be, by %v", ops, beyond)
		}
	}
}

func TestRunAtItsLimits(t *testing.T) {
	most := make([]api.Op, api.MaxOps)
	if tree, built, answers, err := Run(most); len(tree) != 0 || built != 0 || len(answers) != api.MaxOps || answers[0].Err != api.ErrArg || err != api.OK {
		t.Error("most ops:", tree, built, answers, err)
	}
	for _, n := range []int{api.MaxOps + 1, 100_000} {
		ops := make([]api.Op, n)
		copy(ops, puts(rising(0, 50)...))
		if tree, built, answers, err := Run(ops); tree != nil || built != 0 || answers != nil || err != api.ErrLarge {
			t.Error("too many ops:", n, tree, built, answers, err)
		}
	}
	full := puts(rising(1, api.MaxKeys)...)
	want, builtAhead, _, _ := Run(full)
	tree, built, answers, err := Run(append(full, puts(0, 500, 1)...))
	if !slices.Equal(tree, want) || built != builtAhead || err != api.OK {
		t.Error("full:", tree, built, err)
	}
	if answers[200].Err != api.ErrLarge || answers[201].Err != api.ErrLarge || answers[202] != (api.Ans{Is: true}) {
		t.Error("full:", answers[200:])
	}
}

// P1

func TestNothingPanics(t *testing.T) {
	numbers := []int{math.MinInt, math.MinInt + 1, -1, 0, 1, 2, 199, 200, 201,
		api.MaxKey, api.MaxKey + 1, math.MaxInt - 1, math.MaxInt}
	Even(numbers)
	for _, a := range numbers {
		Deepest(a)
		Even([]int{a})
		for _, b := range numbers {
			Even([]int{a, b})
			for _, kind := range numbers {
				Run([]api.Op{{Kind: kind, Key: a, Value: b}, {Kind: api.KPut, Key: b, Value: a}, {Kind: kind, Key: b}})
				Run([]api.Op{{Kind: api.KPut, Key: a}, {Kind: api.KCut, Key: b}, {Kind: kind, Key: a}, {Kind: api.KCut, Key: a}})
			}
		}
	}
}

// P2

// withRoom has the items of l, and room behind them that is filled with spare.
func withRoom[T any](l []T, spare T) []T {
	wide := slices.Clone(l)
	for range 5 {
		wide = append(wide, spare)
	}
	return wide[:len(l)]
}

// spoil writes over all of l, spare room included.
func spoil[T any](l []T, junk T) {
	l = l[:cap(l)]
	for i := range l {
		l[i] = junk
	}
}

func TestMemoryOfEven(t *testing.T) {
	lists := [][]int{nil, {4}, {4, 6}, {6, 4}, rising(0, 50), rising(0, 200), rising(0, 201), rising(-1, 4)}
	for _, list := range lists {
		keys := withRoom(list, 77)
		whole := keys[:cap(keys)]
		ahead := slices.Clone(whole)
		tree, _ := Even(keys)
		want := slices.Clone(tree)
		spoil(tree, api.Spot{Key: -7, Depth: -7})
		if !slices.Equal(whole, ahead) {
			t.Fatal("changed what was handed in", list)
		}
		if again, _ := Even(keys); !slices.Equal(again, want) {
			t.Fatal("kept something", list)
		}
	}
}

func TestMemoryOfRun(t *testing.T) {
	for _, list := range sampleOps() {
		ops := withRoom(list, api.Op{Kind: api.KPut, Key: 77})
		whole := ops[:cap(ops)]
		ahead := slices.Clone(whole)
		tree, built, answers, _ := Run(ops)
		wantTree, wantAnswers := slices.Clone(tree), slices.Clone(answers)
		spoil(tree, api.Spot{Key: -7, Depth: -7})
		spoil(answers, api.Ans{Err: -7})
		if !slices.Equal(whole, ahead) {
			t.Fatal("changed what was handed in", list)
		}
		again, count, told, _ := Run(ops)
		if !slices.Equal(again, wantTree) || count != built || !slices.Equal(told, wantAnswers) {
			t.Fatal("kept something", list)
		}
	}
}
