package grow

import (
	"math"
	"slices"
	"testing"

	"hedgewright/api"
	"hedgewright/plain"
	"hedgewright/shape"
)

// grown is a tree without pointers, told by its spots alone: the model that
// the answers are held against.
type grown []api.Spot

func (g grown) find(key int) (int, bool) {
	return slices.BinarySearchFunc(g, key, func(s api.Spot, key int) int { return s.Key - key })
}

// put lets key stand below the deeper one of the two beside it: the other one
// stands above both.
func (g grown) put(key int) grown {
	place, is := g.find(key)
	if is || len(g) == api.MaxKeys {
		return g
	}
	depth := 0
	if place > 0 {
		depth = g[place-1].Depth + 1
	}
	if place < len(g) {
		depth = max(depth, g[place].Depth+1)
	}
	return slices.Insert(g, place, api.Spot{Key: key, Depth: depth})
}

func (g grown) cut(key int) grown {
	place, is := g.find(key)
	if !is {
		return g
	}
	if g.deeper(place, place-1) && g.deeper(place, place+1) {
		// The next one of all is the least one of the right side.
		g = g.lift(place + 1)
		g[place].Key = g[place+1].Key
		return slices.Delete(g, place+1, place+2)
	}
	return slices.Delete(g.lift(place), place, place+1)
}

func (g grown) deeper(place, other int) bool {
	return other >= 0 && other < len(g) && g[other].Depth > g[place].Depth
}

// lift lets all below place come up by one.
func (g grown) lift(place int) grown {
	for i := place - 1; g.deeper(place, i); i-- {
		g[i].Depth--
	}
	for i := place + 1; g.deeper(place, i); i++ {
		g[i].Depth--
	}
	return g
}

func grownBy(ops []api.Op) grown {
	var g grown
	for _, o := range ops {
		switch {
		case o.Key < 0 || o.Key > api.MaxKey:
		case o.Kind == api.KPut:
			g = g.put(o.Key)
		case o.Kind == api.KCut:
			g = g.cut(o.Key)
		}
	}
	return g
}

// isAbove: a stands above key, if of all keys from the one to the other a came first.
func isAbove(keys []int, a, key int) bool {
	for _, k := range keys {
		if min(a, key) <= k && k <= max(a, key) {
			return k == a && a != key
		}
	}
	return false
}

func depthOf(keys []int, key int) int {
	depth := 0
	for _, a := range keys {
		if isAbove(keys, a, key) {
			depth++
		}
	}
	return depth
}

// mixed has n keys from 0 to most, each once, in an order that follows from seed.
func mixed(seed uint32, n, most int) []int {
	var keys []int
	for len(keys) < n {
		seed = seed*1664525 + 1013904223
		if key := int(seed>>8) % (most + 1); !slices.Contains(keys, key) {
			keys = append(keys, key)
		}
	}
	return keys
}

func rising(first, n int) []int {
	keys := make([]int, n)
	for i := range keys {
		keys[i] = first + i
	}
	return keys
}

func falling(first, n int) []int {
	keys := rising(first-n+1, n)
	slices.Reverse(keys)
	return keys
}

// someOps has n ops of all kinds, and of some that are none, that follow from seed.
func someOps(seed uint32, n, most int) []api.Op {
	ops := make([]api.Op, n)
	for i := range ops {
		seed = seed*1664525 + 1013904223
		kind := int(seed>>8) % 19
		switch {
		case kind > 13:
			kind = api.KCut
		case kind > api.KNth+1:
			kind = api.KPut
		}
		seed = seed*1664525 + 1013904223
		ops[i] = api.Op{Kind: kind, Key: int(seed>>8)%(most+2) - 1, Value: i}
	}
	return ops
}

func puts(keys ...int) []api.Op {
	ops := make([]api.Op, len(keys))
	for i, key := range keys {
		ops[i] = api.Op{Kind: api.KPut, Key: key, Value: key * 10}
	}
	return ops
}

func cuts(keys ...int) []api.Op {
	ops := make([]api.Op, len(keys))
	for i, key := range keys {
		ops[i] = api.Op{Kind: api.KCut, Key: key}
	}
	return ops
}

func sampleKeys() [][]int {
	lists := [][]int{nil, {}, {0}, {api.MaxKey}, {0, api.MaxKey}, {api.MaxKey, 0}, {3, 1, 2}, {1, 3, 2},
		rising(0, api.MaxKeys), falling(api.MaxKey, api.MaxKeys), mixed(5, api.MaxKeys, api.MaxKey), mixed(6, api.MaxKeys, 199)}
	for seed := range uint32(60) {
		lists = append(lists, mixed(seed, int(seed), 100), mixed(seed, int(seed)*3, api.MaxKey))
	}
	return lists
}

// notKeys are lists that Of and Sort refuse, with what they tell of them.
func notKeys() map[api.Errno][][]int {
	bad := rising(0, api.MaxKeys+1)
	bad[3] = -1
	late := rising(0, api.MaxKeys)
	late[199] = api.MaxKey + 1
	twice := rising(0, api.MaxKeys)
	twice[199] = 0
	return map[api.Errno][][]int{
		api.ErrLarge: {rising(0, api.MaxKeys+1), make([]int, 201), bad, make([]int, 10_000)},
		api.ErrForm: {{-1}, {api.MaxKey + 1}, {3, -1}, {-1, 3}, {3, 1, api.MaxKey + 1}, late, {math.MinInt}, {math.MaxInt},
			// What stands twice is told behind what is no key.
			{1, 1, -1}, {-1, -1}, {2, 2, api.MaxKey + 1}, {math.MaxInt, 4, 4}},
		api.ErrTwice: {{1, 1}, {0, 0}, {1, 2, 1}, {2, 1, 1}, {5, 9, 7, 9}, {api.MaxKey, 3, api.MaxKey}, twice, make([]int, 200)},
	}
}

// P4.1

func TestRunTellsTheTree(t *testing.T) {
	six := puts(8, 4, 9, 2, 6, 5)
	nine := puts(50, 20, 80, 10, 30, 70, 90, 60, 75)
	cases := []struct {
		name string
		ops  []api.Op
		want []api.Spot
	}{
		{"nothing", nil, nil},
		{"one", puts(7), []api.Spot{{Key: 7}}},
		{"less is left", puts(7, 3), []api.Spot{{Key: 3, Depth: 1}, {Key: 7}}},
		{"more is right", puts(3, 7), []api.Spot{{Key: 3}, {Key: 7, Depth: 1}}},
		{"there already", puts(3, 7, 3, 7, 3), []api.Spot{{Key: 3}, {Key: 7, Depth: 1}}},
		{"the only one goes", append(puts(3), cuts(3)...), nil},
		{"what is not there goes", append(puts(3, 7), cuts(5, 2, 9)...), []api.Spot{{Key: 3}, {Key: 7, Depth: 1}}},
		{"a leaf goes", append(puts(3, 7), cuts(7)...), []api.Spot{{Key: 3}}},
		{"the top goes, a left side", append(puts(7, 3, 1, 5), cuts(7)...),
			[]api.Spot{{Key: 1, Depth: 1}, {Key: 3}, {Key: 5, Depth: 1}}},
		{"the top goes, a right side", append(puts(1, 5, 3, 7), cuts(1)...),
			[]api.Spot{{Key: 3, Depth: 1}, {Key: 5}, {Key: 7, Depth: 1}}},
		{"both sides, leaves", append(puts(5, 3, 7), cuts(5)...), []api.Spot{{Key: 3, Depth: 1}, {Key: 7}}},
		{"both sides, the least one of the right is next below", append(puts(5, 3, 7, 9, 8), cuts(5)...),
			[]api.Spot{{Key: 3, Depth: 1}, {Key: 7}, {Key: 8, Depth: 2}, {Key: 9, Depth: 1}}},
		{"both sides, the least one has a right side", append(puts(5, 3, 9, 6, 8, 7), cuts(5)...),
			[]api.Spot{{Key: 3, Depth: 1}, {Key: 6}, {Key: 7, Depth: 3}, {Key: 8, Depth: 2}, {Key: 9, Depth: 1}}},
		{"the left one of another", append(six, cuts(4)...),
			[]api.Spot{{Key: 2, Depth: 2}, {Key: 5, Depth: 1}, {Key: 6, Depth: 2}, {Key: 8}, {Key: 9, Depth: 1}}},
		{"two behind each other", append(nine, cuts(50, 60)...),
			[]api.Spot{{Key: 10, Depth: 2}, {Key: 20, Depth: 1}, {Key: 30, Depth: 2}, {Key: 70}, {Key: 75, Depth: 2},
				{Key: 80, Depth: 1}, {Key: 90, Depth: 2}}},
		{"goes and comes again", append(append(puts(5, 3, 7), cuts(5)...), puts(5)...),
			[]api.Spot{{Key: 3, Depth: 1}, {Key: 5, Depth: 2}, {Key: 7}}},
		{"what is refused", []api.Op{{Kind: api.KPut, Key: 4}, {Kind: api.KPut, Key: -1}, {Kind: api.KPut, Key: api.MaxKey + 1},
			{Kind: 0, Key: 2}, {Kind: 8, Key: 3}, {Kind: api.KCut, Key: -1}, {Kind: api.KCut, Key: math.MaxInt}}, []api.Spot{{Key: 4}}},
		{"what only asks", []api.Op{{Kind: api.KPut, Key: 4}, {Kind: api.KGet, Key: 4}, {Kind: api.KGet, Key: 5}, {Kind: api.KNext, Key: 3},
			{Kind: api.KPrev, Key: 5}, {Kind: api.KCount, Key: 9}, {Kind: api.KNth, Key: 0}}, []api.Spot{{Key: 4}}},
		{"the ends", puts(0, api.MaxKey), []api.Spot{{Key: 0}, {Key: api.MaxKey, Depth: 1}}},
	}
	for _, c := range cases {
		tree, answers, err := Run(c.ops)
		if !slices.Equal(tree, c.want) || len(answers) != len(c.ops) || err != api.OK {
			t.Errorf("%s: %v %v %v, want %v", c.name, tree, answers, err, c.want)
		}
	}
}

func TestRunAnswers(t *testing.T) {
	ops := append(puts(3, 1), api.Op{Kind: api.KPut, Key: 3, Value: 33}, api.Op{Kind: api.KNext, Key: 1}, api.Op{Kind: api.KPut, Key: -1},
		api.Op{Kind: api.KCut, Key: 3}, api.Op{Kind: api.KCut, Key: 3}, api.Op{Kind: api.KCount, Key: 9})
	want := []api.Ans{{}, {}, {Is: true}, {Key: 3, Value: 33, Is: true}, {Err: api.ErrArg},
		{Value: 33, Is: true}, {}, {Value: 1, Is: true}}
	tree, answers, err := Run(ops)
	if !slices.Equal(tree, []api.Spot{{Key: 1, Depth: 0}}) || !slices.Equal(answers, want) || err != api.OK {
		t.Error(tree, answers, err)
	}
}

func TestRunAsPlainAndAsTheModel(t *testing.T) {
	for seed := range uint32(600) {
		ops := someOps(seed, min(int(seed), api.MaxOps), []int{6, 20, 60, 200, api.MaxKey}[seed%5])
		pairs, want, _ := plain.Run(ops)
		tree, answers, err := Run(ops)
		if !slices.Equal(answers, want) || err != api.OK {
			t.Fatalf("%v: %v %v", seed, answers, err)
		}
		if model := grownBy(ops); !slices.Equal(tree, model) {
			t.Fatalf("%v: %v, want %v", seed, tree, model)
		}
		if shape.Check(tree) != api.OK || !slices.EqualFunc(tree, pairs, func(s api.Spot, p api.Pair) bool { return s.Key == p.Key }) {
			t.Fatalf("%v: %v is not a tree of %v", seed, tree, pairs)
		}
	}
}

// All orders of five keys, and each of them goes.
func TestRunOfAllSmallOnes(t *testing.T) {
	var each func(keys, rest []int)
	each = func(keys, rest []int) {
		for i, key := range rest {
			each(append(slices.Clone(keys), key), slices.Delete(slices.Clone(rest), i, i+1))
		}
		if len(rest) > 0 {
			return
		}
		for first := range 5 {
			for second := range 5 {
				ops := append(puts(keys...), cuts(first, second)...)
				if tree, _, err := Run(ops); !slices.Equal(tree, grownBy(ops)) || err != api.OK {
					t.Fatalf("%v %v %v: %v %v", keys, first, second, tree, err)
				}
			}
		}
	}
	each(nil, rising(0, 5))
}

func TestRunAtItsLimits(t *testing.T) {
	ops := puts(rising(0, api.MaxOps+1)...)
	for _, n := range []int{0, api.MaxKeys, api.MaxKeys + 1, api.MaxOps} {
		tree, answers, err := Run(ops[:n])
		if len(tree) != min(n, api.MaxKeys) || len(answers) != n || err != api.OK {
			t.Error(n, tree, answers, err)
		}
		for i, s := range tree {
			if s != (api.Spot{Key: i, Depth: i}) {
				t.Fatal(n, i, s)
			}
		}
		if n > api.MaxKeys && answers[api.MaxKeys] != (api.Ans{Err: api.ErrLarge}) {
			t.Error(answers[api.MaxKeys])
		}
	}
	for _, ops := range [][]api.Op{ops, make([]api.Op, 301), make([]api.Op, 100_000)} {
		if tree, answers, err := Run(ops); tree != nil || answers != nil || err != api.ErrLarge {
			t.Error(len(ops), tree, answers, err)
		}
	}
}

// Where there is no room for a key, it does not come; when another one went, it does.
func TestRunWhenItIsFull(t *testing.T) {
	ops := slices.Concat(puts(rising(0, api.MaxKeys)...), puts(500, 7), cuts(500, 0), puts(500, 501))
	tree, _, err := Run(ops)
	if !slices.Equal(tree, grownBy(ops)) || err != api.OK || len(tree) != api.MaxKeys ||
		tree[0] != (api.Spot{Key: 1}) || tree[199] != (api.Spot{Key: 500, Depth: 199}) {
		t.Error(tree, err)
	}
}

// P4.2

func TestOf(t *testing.T) {
	cases := []struct {
		keys []int
		want []api.Spot
	}{
		{nil, nil},
		{[]int{}, nil},
		{[]int{0}, []api.Spot{{Key: 0}}},
		{[]int{api.MaxKey}, []api.Spot{{Key: api.MaxKey}}},
		{[]int{2, 3, 1}, []api.Spot{{Key: 1, Depth: 1}, {Key: 2}, {Key: 3, Depth: 1}}},
		{[]int{1, 2, 3}, []api.Spot{{Key: 1}, {Key: 2, Depth: 1}, {Key: 3, Depth: 2}}},
		{[]int{3, 2, 1}, []api.Spot{{Key: 1, Depth: 2}, {Key: 2, Depth: 1}, {Key: 3}}},
		{[]int{1, 3, 2}, []api.Spot{{Key: 1}, {Key: 2, Depth: 2}, {Key: 3, Depth: 1}}},
		{[]int{8, 4, 9, 2, 6, 5}, []api.Spot{{Key: 2, Depth: 2}, {Key: 4, Depth: 1}, {Key: 5, Depth: 3}, {Key: 6, Depth: 2}, {Key: 8}, {Key: 9, Depth: 1}}},
	}
	for _, c := range cases {
		if got, err := Of(c.keys); !slices.Equal(got, c.want) || err != api.OK {
			t.Errorf("%v: %v %v, want %v", c.keys, got, err, c.want)
		}
	}
}

func TestOfByWhoCameFirst(t *testing.T) {
	for _, keys := range sampleKeys() {
		tree, err := Of(keys)
		if err != api.OK || len(tree) != len(keys) || shape.Check(tree) != api.OK {
			t.Fatalf("%v: %v %v", keys, tree, err)
		}
		for _, s := range tree {
			if want := depthOf(keys, s.Key); !slices.Contains(keys, s.Key) || s.Depth != want {
				t.Fatalf("%v: %v, want %v", keys, s, want)
			}
		}
		if run, _, _ := Run(puts(keys...)); !slices.Equal(run, tree) {
			t.Fatalf("%v: %v, want %v", keys, run, tree)
		}
	}
}

func TestOfTheOrderOfATree(t *testing.T) {
	trees, _ := shape.All(6)
	for _, tree := range trees {
		for _, way := range []int{1, 3} {
			keys, _ := shape.Order(tree, way)
			if got, err := Of(keys); !slices.Equal(got, tree) || err != api.OK {
				t.Errorf("%v: %v %v, want %v", keys, got, err, tree)
			}
		}
	}
}

func TestSort(t *testing.T) {
	cases := []struct {
		keys []int
		want []int
		held int
	}{
		{nil, nil, 0},
		{[]int{}, nil, 0},
		{[]int{5}, []int{5}, 0},
		{[]int{1, 2}, []int{1, 2}, 1},
		{[]int{2, 1}, []int{1, 2}, 1},
		{[]int{2, 3, 1}, []int{1, 2, 3}, 2},
		{[]int{1, 2, 3}, []int{1, 2, 3}, 3},
		{[]int{3, 2, 1}, []int{1, 2, 3}, 3},
		{[]int{8, 4, 9, 2, 6, 5}, []int{2, 4, 5, 6, 8, 9}, 9},
		// 1, 2 and 3 stand in this order on the left of 4: another order of them is held less.
		{[]int{4, 1, 2, 3, 6, 5, 7}, []int{1, 2, 3, 4, 5, 6, 7}, 11},
		{[]int{4, 2, 1, 3, 5, 6, 7}, []int{1, 2, 3, 4, 5, 6, 7}, 11},
		{[]int{4, 2, 1, 3, 6, 5, 7}, []int{1, 2, 3, 4, 5, 6, 7}, 10},
		{[]int{api.MaxKey, 0}, []int{0, api.MaxKey}, 1},
		{rising(0, api.MaxKeys), rising(0, api.MaxKeys), 19_900},
		{falling(api.MaxKey, api.MaxKeys), rising(api.MaxKey-199, api.MaxKeys), 19_900},
	}
	for _, c := range cases {
		if got, held, err := Sort(c.keys); !slices.Equal(got, c.want) || held != c.held || err != api.OK {
			t.Errorf("%v: %v %v %v, want %v %v", c.keys, got, held, err, c.want, c.held)
		}
	}
}

// Two are held against each other where the one stands above the other in the tree.
func TestSortHoldsAsTheTreeStands(t *testing.T) {
	for _, keys := range sampleKeys() {
		got, held, err := Sort(keys)
		if !slices.Equal(got, slices.Sorted(slices.Values(keys))) || err != api.OK {
			t.Fatalf("%v: %v %v", keys, got, err)
		}
		want := 0
		for _, key := range keys {
			want += depthOf(keys, key)
		}
		if held != want {
			t.Fatalf("%v: %v, want %v", keys, held, want)
		}
	}
}

func TestOfAndSortTellErrors(t *testing.T) {
	for want, lists := range notKeys() {
		for _, keys := range lists {
			if tree, err := Of(keys); tree != nil || err != want {
				t.Errorf("%v: %v %v, want %v", keys, tree, err, want)
			}
			if got, held, err := Sort(keys); got != nil || held != 0 || err != want {
				t.Errorf("%v: %v %v %v, want %v", keys, got, held, err, want)
			}
		}
	}
}

// P1

func TestNothingPanics(t *testing.T) {
	numbers := []int{math.MinInt, math.MinInt + 1, -1, 0, 1, 2, 3,
		api.MaxKey, api.MaxKey + 1, math.MaxInt - 1, math.MaxInt}
	lists := [][]int{nil, {}, make([]int, 100_000)}
	for _, a := range numbers {
		for _, b := range numbers {
			lists = append(lists, []int{a, b})
			for _, c := range numbers {
				lists = append(lists, []int{a, b, c})
				Run([]api.Op{{Kind: api.KPut, Key: b, Value: c}, {Kind: a, Key: b, Value: c}, {Kind: a, Key: c, Value: b}, {Kind: api.KCut, Key: a}})
			}
		}
	}
	for _, keys := range lists {
		Of(keys)
		Sort(keys)
	}
	Run(nil)
}

// P2

// withRoom has the items of l, and room behind them that is filled with spare.
func withRoom[T any](l []T, spare T) []T {
	wide := slices.Clone(l)
	for range 5 {
		wide = append(wide, spare)
	}
	return wide[:len(l)]
}

// spoil writes over all of l, spare room included.
func spoil[T any](l []T, junk T) {
	l = l[:cap(l)]
	for i := range l {
		l[i] = junk
	}
}

func TestMemoryOfOfAndSort(t *testing.T) {
	lists := append(sampleKeys(), []int{2, 2}, []int{3, -1}, rising(0, api.MaxKeys+1))
	for _, list := range lists {
		keys := withRoom(list, 77)
		whole := keys[:cap(keys)]
		ahead := slices.Clone(whole)
		wantTree, _ := Of(slices.Clone(list))
		wantKeys, wantHeld, _ := Sort(slices.Clone(list))
		tree, _ := Of(keys)
		got, _, _ := Sort(keys)
		spoil(tree, api.Spot{Key: -7, Depth: -7})
		spoil(got, -7)
		if !slices.Equal(whole, ahead) {
			t.Fatal("changed or answered what was handed in", list)
		}
		againTree, _ := Of(keys)
		againKeys, againHeld, _ := Sort(keys)
		if !slices.Equal(againTree, wantTree) || !slices.Equal(againKeys, wantKeys) || againHeld != wantHeld {
			t.Fatal("kept something", list)
		}
	}
}

func TestMemoryOfRun(t *testing.T) {
	for seed := range uint32(30) {
		ops := withRoom(someOps(seed, int(seed)*10, 100), api.Op{Kind: api.KPut, Key: 7})
		whole := ops[:cap(ops)]
		ahead := slices.Clone(whole)
		wantTree, wantAnswers, _ := Run(slices.Clone(ops))
		tree, answers, _ := Run(ops)
		spoil(tree, api.Spot{Key: -7, Depth: -7})
		if !slices.Equal(answers, wantAnswers) {
			t.Fatal("tree and answers share memory", seed)
		}
		spoil(answers, api.Ans{Key: -7})
		if !slices.Equal(whole, ahead) {
			t.Fatal("changed what was handed in", seed)
		}
		againTree, againAnswers, _ := Run(ops)
		if !slices.Equal(againTree, wantTree) || !slices.Equal(againAnswers, wantAnswers) {
			t.Fatal("kept something", seed)
		}
	}
}
